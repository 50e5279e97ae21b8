/- Proves AllocTaken of layer 5 (alloc), for every input, with no condition: no unit that is held, or waits, is taken. -/
import Derived.Test.YtlkhlbieiogahaaAlcL
import Derived.Deep.DeepCutAuto
import Derived.Deep.CutBlock
namespace Go.Proofs.Ytlkhlbieiogahaa
open Go.ChangeShapes Go.WideShapes Go.ChangeAt Go.RowKit Go.Maps

theorem info_bool : (Try.prog.info? 4).map (fun i => (i.zero, i.size, i.bytes)) = some (some (.bool false), 1, 1) := by kernel_rfl
theorem takeR_cases (N : Nat) (c : Nat → Int) (m : Int) : (((takeR N c m).2.1 = 1 ∨ (takeR N c m).2.1 = 7) ∧ (takeR N c m).2.2 = c) ∨
    ∃ F n : Nat, m = (n : Int) ∧ 1 ≤ n ∧ F + n ≤ N ∧ takeR N c m = ((F : Int), 0, upd (fun _ => 1) c F n) ∧ ∀ j, F ≤ j → j < F + n → c j = 0 := by
  by_cases h1 : m < 1
  · left; unfold takeR; rw [if_pos h1]; exact ⟨.inl rfl, rfl⟩
  · obtain ⟨n, rfl⟩ := Int.eq_ofNat_of_zero_le (show 0 ≤ m by omega)
    cases hh : hit c n N with
    | none => left; unfold takeR; rw [if_neg h1, Int.toNat_natCast, hh]; exact ⟨.inr rfl, rfl⟩
    | some z =>
      right
      obtain ⟨r1, r2, r3⟩ := hit_row hh (by omega)
      refine ⟨z + 1 - n, n, rfl, by omega, by omega, ?_, fun j h2 h3 => r3 j h2 (by omega)⟩
      unfold takeR
      rw [if_neg h1, Int.toNat_natCast, hh]
      simp only [Prod.mk.injEq, and_self, and_true]
      omega
theorem share_wait {N : Nat} {c : Nat → Int} {f n : Int} {j : Nat} (hw : c j = -1) : (shareR N c f n).2 j = -1 := by
  unfold shareR
  split
  · exact hw
  · rename_i h
    split
    · exact hw
    · obtain ⟨r1, r2, r3, r4⟩ := right_ok (by simpa using h)
      unfold upd
      simp only
      split
      · rename_i hi
        have := r4 (j - f.toNat) (by omega)
        rw [show f.toNat + (j - f.toNat) = j by omega] at this
        omega
      · exact hw
theorem drop_wait {N : Nat} {c : Nat → Int} {f n : Int} {j : Nat} (hw : c j = -1) : (dropR N c f n).2.2 j = -1 := by
  unfold dropR
  split
  · exact hw
  · rename_i h
    obtain ⟨r1, r2, r3, r4⟩ := right_ok (by simpa using h)
    unfold upd
    simp only
    split
    · rename_i hi
      have := r4 (j - f.toNat) (by omega)
      rw [show f.toNat + (j - f.toNat) = j by omega] at this
      omega
    · exact hw
theorem drop_new {N : Nat} {c : Nat → Int} {f n : Int} {j : Nat} (hp : 0 < c j) (hz : (dropR N c f n).2.2 j ≤ 0) : (dropR N c f n).2.2 j = -1 := by
  unfold dropR at *
  split
  · rename_i h
    rw [if_pos h] at hz
    simp only at hz
    omega
  · rename_i h
    rw [if_neg h] at hz
    unfold upd at *
    simp only at *
    split
    · rename_i hi
      rw [if_pos hi] at hz
      unfold dropF at *
      split
      · rfl
      · rename_i he
        rw [if_neg he] at hz
        omega
    · rename_i hi
      rw [if_neg hi] at hz
      omega
theorem countR_at {N : Nat} {c : Nat → Int} {i : Nat} (h : i < N) : countR N c (i : Int) = max 0 (c i) := by
  unfold countR
  rw [if_neg (by omega), Int.toNat_natCast]

/-- How a script's walk stands: an allocator; which units wait. -/
structure TknAt (w w' : World) (g q n : Nat) (c : Nat → Int) (b : Nat → Bool) : Prop where
  al : Al w' g n c
  row : Blk w' q 4 (rowA n (fun j => .bool (b j)))
  below : Below w.heap.size w w'
  low : w.heap.size ≤ q
  apart : q < g ∨ g + 1 < q
  waits : ∀ j, j < n → b j = true → c j = -1
theorem TknAt.keep {w w' w'' : World} {g q n : Nat} {c : Nat → Int} {b : Nat → Bool} (h : TknAt w w' g q n c b) (hb : Below w'.heap.size w' w'') : TknAt w w'' g q n c b :=
  ⟨h.al.below hb, h.row.keep hb, h.below.trans (hb.mono h.below.size), h.low, h.apart, h.waits⟩
theorem TknAt.does {w w' w'' : World} {g q n : Nat} {c c' : Nat → Int} {b : Nat → Bool} (h : TknAt w w' g q n c b) (h0 : w.heap.size ≤ g) (hA : Al w'' g n c') (ht : Tn g (g + 1) w' w'') (hw : ∀ j, j < n → b j = true → c' j = -1) : TknAt w w'' g q n c' b :=
  ⟨hA, ht.blk h.row (by have := h.apart; omega), h.below.trans (ht.below h0 h.below.size), h.low, h.apart, hw⟩

set_option maxRecDepth 100000 in
set_option maxHeartbeats 1000000 in
theorem allocTaken_bad (z : Int) (S : Option Addr) (sn sc : Nat) (w : World) (hz : ¬ (1 ≤ z ∧ z ≤ 4096)) :
    Calls Try.prog 4 #[.int .i64 z, .slice S sn sc] w fun e w' => e = .returned (.bool true) ∧ Below w.heap.size w w' := by
  go_enter Try.func4, Try.ntmps4
  go_wp2_with fail
  refine (new_bad z _ hz).mono ?_
  rintro e w' ⟨rfl, rfl⟩
  go_wp2_with fail
  refine (alive_ _).mono ?_
  rintro e w5 ⟨rfl, hb5⟩
  go_wp2
  go_ret
  exact ⟨rfl, hb5⟩

set_option maxRecDepth 100000 in
set_option maxHeartbeats 8000000 in
theorem allocTaken_good (n : Nat) (S : Option Addr) (sn sc : Nat) (l : List ActV) (w : World) (h1 : 0 < n) (h2 : n ≤ 4096)
    (hl : (Shp.slice actShp 24).R w [.slice S sn sc] l) (hsn : sn ≤ 9223372036854775807) :
    Calls Try.prog 4 #[.int .i64 (n : Int), .slice S sn sc] w fun e w' => e = .returned (.bool true) ∧ Below w.heap.size w w' := by
  obtain ⟨i0, hi0, hz0, hz1, hz2⟩ := parts_of info_bool
  obtain ⟨j0, hj0, hy0, hy1, hy2⟩ := parts_of info_int
  have Hz := Lib.hid hz2
  have Hy := Lib.hid hy2
  clear hz2 hy2
  go_enter Try.func4, Try.ntmps4
  go_wp2_with fail
  refine (new_ n w h1 h2).mono ?_
  rintro e w1 ⟨g, rfl, hg, k1, hb1⟩
  go_wp2_with fail
  refine (alive_ _).mono ?_
  rintro e w5 ⟨rfl, hb5⟩
  have h5 := k1.below hb5
  have hB5 : Below w.heap.size w w5 := hb1.trans (hb5.mono hb1.size)
  have h0 : w.heap.size ≤ g := by omega
  clear hb1 hb5 k1 hg
  have hgl := h5.lt
  go_wp2_with (first
    | (at_make
       refine wpList_make_blk _ rfl _ _ 28 rfl 4 i0 _ 1 1 Try.underlying28 hi0 hz0 hz1 Hz.out .i64 .i64 _ _ n rfl rfl rfl rfl (by omega) (by omega) ?_
       intro w6 hk6 hb6 hs6)
    | fail)
  rw [Nat.mul_one, show (Value.bool false).cells = #[.bool false] from rfl, made_rowA] at hk6
  have h6 : TknAt w w6 g w5.heap.size n (fun _ => 0) (fun _ => false) := ⟨h5.below hb6, hk6, hB5.trans (hb6.mono hB5.size), by omega, by omega, fun j _ h => by cases h⟩
  clear h5 hB5 hk6 hb6 hs6 hgl
  generalize w5.heap.size = q at *
  go_loopw [7, 36] (fun wv iv wr => ∃ (k q : Nat) (c : Nat → Int) (b : Nat → Bool), k ≤ sn ∧ iv = .int .i64 (k : Int) ∧ wv = .slice (some ⟨q, 0, none⟩) n n ∧ TknAt w wr g q n c b) (fun _ iv _ => sn - (intOf iv).toNat)
  case atStart => exact ⟨0, q, _, _, Nat.zero_le _, rfl, rfl, h6⟩
  case round =>
    obtain ⟨k, q, c, b, hk, rfl, rfl, hT⟩ := hrel
    clear h6
    have hbs := hT.below.size
    by_cases hlt : k < sn
    · obtain ⟨bb, o, rfl, kd, f, m, hkd, hf, hm, e0, e1, e2⟩ := acts_later hl hT.below hlt
      have hkl : (k : Int) < (sn : Int) := by omega
      have el := cell_lt e0
      have hb' : Below wr.heap.size wr (wr.alloc (.cells #[.int .u8 (kd : Int), .int .i64 f, .int .i64 m] 35)) := (Below.refl _ _).alloc (Nat.le_refl _) _
      have hac := Blk.new wr 35 #[.int .u8 (kd : Int), .int .i64 f, .int .i64 m] rfl
      have hT6 := hT.keep hb'
      have hgl := hT.al.lt
      have hql := hT.row.lt
      clear hl hb' hT
      go_wp2_with (first
        | (at_make
           refine wpList_make_blk _ rfl _ _ 27 rfl 3 j0 _ 1 8 Try.underlying27 hj0 hy0 hy1 Hy.out .i64 .i64 _ _ n rfl rfl rfl rfl (by omega) (by omega) ?_
           intro w7 hk7 hb7 hs7)
        | fail)
      rw [Nat.mul_one, show (Value.int .i64 0).cells = #[.int .i64 0] from rfl, made_rowA] at hk7
      have hT7 := hT6.keep hb7
      have hac7 := hac.keep hb7
      rw [show (wr.alloc (.cells #[.int .u8 (kd : Int), .int .i64 f, .int .i64 m] 35)).heap.size = wr.heap.size + 1 by simp] at hk7
      have hBd : wr.heap.size < wr.heap.size + 1 := Nat.lt_succ_self _
      have hld : w.heap.size ≤ wr.heap.size := hbs
      clear hT6 hb7 hs7 hac e0 e1 e2 el
      generalize wr.heap.size + 1 = B at *
      generalize wr.heap.size = d at *
      go_loopw [44] (fun iv wr => ∃ i : Nat, i ≤ n ∧ iv = .int .i64 (i : Int) ∧ TknAt w wr g q n c b ∧ Blk wr d 35 #[.int .u8 (kd : Int), .int .i64 f, .int .i64 m] ∧ ∃ v, Blk wr B 3 (rowA n v) ∧ ∀ j, j < i → v j = .int .i64 (countR n c (j : Int))) (fun iv _ => n - (intOf iv).toNat)
      case atStart => exact ⟨0, Nat.zero_le _, rfl, hT7, hac7, _, hk7, fun j hj => by omega⟩
      case round =>
        obtain ⟨i, hi, rfl, hT, hac, v, hv, hvj⟩ := hrel
        clear hT7 hac7 hk7
        have Hj := Lib.hid hvj
        clear hvj
        have hap := hT.apart
        by_cases hlt : i < n
        · have hil : (i : Int) < (n : Int) := by omega
          have hc := hv.cell (rowA_at v hlt)
          have hfz := hv.free i
          have hvs := hv.setCell i (.int .i64 (countR n c (i : Int)))
          rw [rowA_set] at hvs
          have ht : Tn B (B + 1) wr (wr.setCell ⟨B, i, none⟩ (.int .i64 (countR n c (i : Int)))) := Tn.set _ _ _ (Nat.le_refl _) (Nat.lt_succ_self _)
          have hBT : Below w.heap.size wr (wr.setCell ⟨B, i, none⟩ (.int .i64 (countR n c (i : Int)))) := ht.below (by omega) hT.below.size
          go_wp2_with fail
          refine (count_ g n c wr i hT.al).mono ?_
          rintro e w' ⟨rfl, rfl⟩
          go_wp2
          go_roundw
          case rel => exact ⟨i + 1, by omega, by go_num, ⟨hT.al.tn ht (by omega), ht.blk hT.row (by omega), hT.below.trans hBT, hT.low, hT.apart, hT.waits⟩, ht.blk hac (by omega), _, hvs, fun j hj => by
            by_cases e : j = i
            · subst e; simp
            · simp only [if_neg e]; exact Hj.out j (by omega)⟩
          case measure => simp [intOf]; omega
        · have hin : (n : Int) ≤ (i : Int) := by omega
          have he : i = n := by omega
          rw [he] at Hj
          clear he
          have a0 := hac.cell (j := 0) (u := .int .u8 (kd : Int)) rfl
          have a1 := hac.cell (j := 1) (u := .int .i64 f) rfl
          have a2 := hac.cell (j := 2) (u := .int .i64 m) rfl
          have kk : 0 ≤ (kd : Int) := by omega
          have hbx := hT.below.size
          have hcs : kd % 4 = 0 ∨ kd % 4 = 1 ∨ kd % 4 = 2 ∨ kd % 4 = 3 := by omega
          rcases hcs with e | e | e | e
          all_goals
            have q4 := mod4 e
            clear e
          · obtain ⟨hE, hc'⟩ | ⟨F, p, rfl, p1, p2, hR, hz⟩ := takeR_cases n c m
            · have hA' : ∀ w', Al w' g n (takeR n c m).2.2 → Al w' g n c := fun w' h => by rw [hc'] at h; exact h
              go_wp2_with fail
              refine (take_ g n c wr m hT.al hm).mono ?_
              generalize (takeR n c m).1 = F
              rcases hE with hE | hE
              all_goals
                rw [hE]
                rintro e wA ⟨rfl, hA, htA⟩
                have hst := hT.does h0 (hA' _ hA) htA hT.waits
                clear hA htA hT a0 a1 a2 hac hE hv
                go_wp2
                go_roundw
                case rel => exact ⟨k + 1, q, c, b, by omega, by go_num, rfl, hst⟩
                case measure => simp [intOf]; omega
            · have HR := Lib.hid hR
              have HZ := Lib.hid hz
              clear hR hz
              go_wp2_with fail
              refine (take_ g n c wr p hT.al hm).mono ?_
              rw [HR.out]
              rintro e wA ⟨rfl, hA, htA⟩
              have hst := hT.does h0 hA htA (fun j hj hbj => by
                have hw := hT.waits j hj hbj
                show (if F ≤ j ∧ j < F + p then (1 : Int) else c j) = -1
                rw [if_neg fun hi => by have := HZ.out j hi.1 hi.2; omega]
                exact hw)
              have hvA := htA.blk hv (by omega)
              have hacA := htA.blk hac (by omega)
              have HW := Lib.hid hT.waits
              clear htA hT a0 a1 a2 hac hv hA
              have a2 := hacA.cell (j := 2) (u := .int .i64 (p : Int)) rfl
              go_wp2_with fail
              go_loopw [14] (fun iv wr => ∃ i : Nat, F ≤ i ∧ i ≤ F + p ∧ iv = .int .i64 (i : Int) ∧ wA = wr) (fun iv _ => F + p - (intOf iv).toNat)
              case atStart => exact ⟨F, Nat.le_refl _, by omega, rfl, rfl⟩
              case round =>
                obtain ⟨i, hi1, hi2, rfl, rfl⟩ := hrel
                by_cases hlt : i < F + p
                · have hil : (i : Int) < (F : Int) + (p : Int) := by omega
                  have hin2 : i < n := by omega
                  have hci := HZ.out i hi1 hlt
                  have hvc := hvA.cell (rowA_at v hin2)
                  have hv0 : v i = .int .i64 0 := by rw [Hj.out i hin2, countR_at hin2, hci]; rfl
                  rw [hv0] at hvc
                  have hbc := hst.row.cell (rowA_at (fun j => .bool (b j)) hin2)
                  have hbf : b i = false := by
                    cases hbi : b i with
                    | false => rfl
                    | true => have := HW.out i hin2 hbi; omega
                  simp only [hbf] at hbc
                  have hcn : countR n (upd (fun _ => 1) c F p) (i : Int) = 1 := by
                    rw [countR_at hin2]
                    unfold upd
                    rw [if_pos ⟨hi1, hlt⟩]
                    rfl
                  have Hcn := Lib.hid hcn
                  clear hci hv0 hbf hcn
                  go_wp2_with fail
                  refine (count_ g n _ wA i hst.al).mono ?_
                  rw [Hcn.out]
                  rintro e w' ⟨rfl, rfl⟩
                  go_wp2
                  go_roundw
                  case rel => exact ⟨i + 1, by omega, by omega, by go_num, trivial⟩
                  case measure => simp [intOf]; omega
                · have hil : (F : Int) + (p : Int) ≤ (i : Int) := by omega
                  go_wp2
                  go_roundw
                  case rel => exact ⟨k + 1, q, _, b, by omega, by go_num, rfl, hst⟩
                  case measure => simp [intOf]; omega
          · go_wp2_with fail
            refine (share_ g n c wr f m hT.al hf hm).mono ?_
            rintro e wA ⟨rfl, hA, htA⟩
            have hst := hT.does h0 hA htA (fun j hj hbj => share_wait (hT.waits j hj hbj))
            clear hA htA hT a0 a1 a2 hac hv
            go_wp2
            go_roundw
            case rel => exact ⟨k + 1, q, _, b, by omega, by go_num, rfl, hst⟩
            case measure => simp [intOf]; omega
          · go_wp2_with fail
            refine (drop_ g n c wr f m hT.al hf hm).mono ?_
            rintro e wA ⟨rfl, hA, htA⟩
            have hst := hT.does h0 hA htA (fun j hj hbj => drop_wait (hT.waits j hj hbj))
            have hnew : ∀ j, 0 < c j → (dropR n c f m).2.2 j ≤ 0 → (dropR n c f m).2.2 j = -1 := fun j => drop_new
            have hvA := htA.blk hv (by omega)
            clear hA htA hT a0 a1 a2 hac hv
            generalize (dropR n c f m).1 = F at *
            generalize (dropR n c f m).2.1 = E at *
            generalize (dropR n c f m).2.2 = c' at *
            have Hnew := Lib.hid hnew
            clear hnew
            go_wp2_with fail
            go_loopw [131] (fun iv wr => ∃ (i : Nat) (b : Nat → Bool), i ≤ n ∧ iv = .int .i64 (i : Int) ∧ TknAt w wr g q n c' b ∧ Blk wr B 3 (rowA n v)) (fun iv _ => n - (intOf iv).toNat)
            case atStart => exact ⟨0, b, Nat.zero_le _, rfl, hst, hvA⟩
            case round =>
              obtain ⟨i, b2, hi, rfl, hS, hvY⟩ := hrel
              clear hst hvA
              by_cases hlt : i < n
              · have hil : (i : Int) < (n : Int) := by omega
                have hbc := hS.row.cell (rowA_at (fun j => .bool (b2 j)) hlt)
                have hfz := hS.row.free i
                have hvc := hvY.cell (rowA_at v hlt)
                rw [Hj.out i hlt] at hvc
                have store : ∀ (x : Bool), (x = true → c' i = -1) → TknAt w (wr.setCell ⟨q, i, none⟩ (.bool x)) g q n c' (fun j => if j = i then x else b2 j) ∧ Blk (wr.setCell ⟨q, i, none⟩ (.bool x)) B 3 (rowA n v) := by
                  intro x hx
                  have ht : Tn q (q + 1) wr (wr.setCell ⟨q, i, none⟩ (.bool x)) := Tn.set _ _ _ (Nat.le_refl _) (Nat.lt_succ_self _)
                  have hr := hS.row.setCell i (.bool x)
                  rw [rowA_set] at hr
                  refine ⟨⟨hS.al.tn ht (by omega), ?_, hS.below.trans (ht.below hS.low hS.below.size), hS.low, hS.apart, fun j hj hbj => ?_⟩, ht.blk hvY (by omega)⟩
                  · refine Eq.trans hr ?_
                    congr 2
                    apply rowA_congr
                    intro j _
                    by_cases e : j = i
                    · simp [e]
                    · simp [e]
                  · by_cases e : j = i
                    · subst e; simp at hbj; exact hx hbj
                    · simp only [if_neg e] at hbj; exact hS.waits j hj hbj
                have Store := Lib.hid store
                clear store
                cases hbi : b2 i with
                | true =>
                  have hst := Store.out true fun _ => hS.waits i hlt hbi
                  simp only [hbi] at hbc
                  clear hbi
                  go_wp2
                  go_roundw
                  case rel => exact ⟨i + 1, _, by omega, by go_num, hst⟩
                  case measure => simp [intOf]; omega
                | false =>
                  simp only [hbi] at hbc
                  clear hbi
                  by_cases hcp : 0 < c i
                  · have hp : 0 < countR n c (i : Int) := by rw [countR_at hlt]; omega
                    by_cases hz : c' i ≤ 0
                    · have hst := Store.out true fun _ => Hnew.out i hcp hz
                      have Hz0 := Lib.hid (show countR n c' (i : Int) = 0 by rw [countR_at hlt]; omega)
                      clear hcp hz
                      go_wp2_with fail
                      refine (count_ g n c' wr i hS.al).mono ?_
                      rw [Hz0.out]
                      rintro e w' ⟨rfl, rfl⟩
                      go_wp2
                      go_roundw
                      case rel => exact ⟨i + 1, _, by omega, by go_num, hst⟩
                      case measure => simp [intOf]; omega
                    · have hst := Store.out false fun h => by cases h
                      have hz0 : (countR n c' (i : Int) == 0) = false := by
                        have : ¬ countR n c' (i : Int) = 0 := by rw [countR_at hlt]; omega
                        simpa using this
                      clear hcp hz
                      go_wp2_with fail
                      refine (count_ g n c' wr i hS.al).mono ?_
                      rintro e w' ⟨rfl, rfl⟩
                      go_wp2
                      go_roundw
                      case rel => exact ⟨i + 1, _, by omega, by go_num, hst⟩
                      case measure => simp [intOf]; omega
                  · have hp : countR n c (i : Int) ≤ 0 := by rw [countR_at hlt]; omega
                    have hst := Store.out false fun h => by cases h
                    clear hcp
                    go_wp2
                    go_roundw
                    case rel => exact ⟨i + 1, _, by omega, by go_num, hst⟩
                    case measure => simp [intOf]; omega
              · have hin : (n : Int) ≤ (i : Int) := by omega
                go_wp2
                go_roundw
                case rel => exact ⟨k + 1, q, _, _, by omega, by go_num, rfl, hS⟩
                case measure => simp [intOf]; omega
          · go_wp2_with fail
            refine (settle_ g n c wr hT.al).mono ?_
            rintro e wA ⟨rfl, hA, htA⟩
            have hBA : Below w.heap.size w wA := hT.below.trans (htA.below h0 hbx)
            clear htA hT a0 a1 a2 hac hv
            have hgA := hA.lt
            go_wp2_with (first
              | (at_make
                 refine wpList_make_blk _ rfl _ _ 28 rfl 4 i0 _ 1 1 Try.underlying28 hi0 hz0 hz1 Hz.out .i64 .i64 _ _ n rfl rfl rfl rfl (by omega) (by omega) ?_
                 intro wC hkC hbC hsC)
              | fail)
            rw [Nat.mul_one, show (Value.bool false).cells = #[.bool false] from rfl, made_rowA] at hkC
            have hszA := hBA.size
            have hst : TknAt w wC g wA.heap.size n (settleC n c) (fun _ => false) := ⟨hA.below hbC, hkC, hBA.trans (hbC.mono hszA), hszA, by omega, fun j _ h => by cases h⟩
            go_wp2
            go_roundw
            case rel => exact ⟨k + 1, _, _, _, by omega, by go_num, rfl, hst⟩
            case measure => simp [intOf]; omega
    · have hkl : (sn : Int) ≤ (k : Int) := by omega
      have hB := hT.below
      go_wp2
      go_ret
      exact ⟨rfl, hB⟩

theorem allocTaken_walk (z : Int) (S : Option Addr) (sn sc : Nat) (l : List ActV) (w : World) (hl : (Shp.slice actShp 24).R w [.slice S sn sc] l) :
    Calls Try.prog 4 #[.int .i64 z, .slice S sn sc] w fun e w' => e = .returned (.bool true) ∧ Below w.heap.size w w' := by
  by_cases hz : 1 ≤ z ∧ z ≤ 4096
  · obtain ⟨n, rfl⟩ := Int.eq_ofNat_of_zero_le (show 0 ≤ z by omega)
    exact allocTaken_good n S sn sc l w (by omega) (by omega) hl (acts_len hl)
  · exact allocTaken_bad z S sn sc w hz

set_option maxRecDepth 100000 in
theorem allocTaken_lifted (os : Os) (started : os.Started) (H : Type) (enc : TypeId × Value → H) :
    ReturnsInHanded {} Try.checked os 4 .any (Rows.allocTakenSpec.pre6 enc Try.prog Try.f4 Rows.allocTakenRow.domain false) (Rows.allocTakenSpec.post enc Try.prog Try.f4 false true false false) := by
  refine law_lifted (C := Try.checked) (tb := 4) own_ started (by kernel_rfl) Try.func4
    (ChangeSpec.witness6 (enc := enc) (C := Try.checked) false ⟨#[], #[.int .i64 0, .slice none 0 0], []⟩ 8 (by kernel_rfl) (by kernel_rfl) (by kernel_rfl) (by kernel_rfl))
    rfl rfl Try.underlying4 laidOut_ (by kernel_rfl) (fun ds h => by match ds, h with | [_, _], _ => rfl) ?_
  intro W base args ds p hval0 hA0 _ hsz0
  have hval : ∀ (j : Nat) t v, Try.f4.params[j]? = some t → args[j]? = some v → Value.okWide Try.prog W .any base t v := hval0
  have hA : DataW.TrodAll enc Try.prog W 0 (fun _ => true) true Try.f4.params.toList args.toList ds p := hA0
  have hsz : (DataW.weightsEach Try.prog Try.f4.params.toList ds).all (· ≤ reachBytes) = true := hsz0
  clear hval0 hA0 hsz0
  rw [Try.params4] at hA hval hsz
  obtain ⟨v0, v1, d0, d1, p0, p1, rfl, rfl, rfl, h0, h1⟩ := trodAll_two hA
  obtain ⟨z0, rfl, hz0⟩ := arg_int _ _ Try.underlying3 (hval 0 _ v0 rfl rfl) h0 wf_i64
  obtain ⟨A1, n1, c1, xs1, rfl, r1, b1⟩ := arg_slice ops_acts Try.underlying22 (hval 1 _ v1 rfl rfl) h1 (weight_at hsz (j := 1) rfl rfl)
  exact allocTaken_walk z0 A1 n1 c1 xs1 W r1

/-- AllocTaken, for every input: the statement as it was given. -/
theorem allocTaken_holds : Rows.AllocTakenSaid :=
  OpenClaim.holds_of_wide 4 Try.f4 rfl rfl rfl rfl rfl rfl rfl ⟨rfl, rfl, rfl, rfl, rfl⟩ rfl rfl rfl rfl rfl (by kernel_rfl) Try.func4 (by kernel_rfl)
    (of_decide_eq_true (by kernel_rfl)) (by unfold Func.isWrapper; first | (rw [if_pos (by decide +kernel)]; kernel_rfl) | (rw [if_neg (by decide +kernel)]; exact ⟨rfl, rfl⟩))
    (fun os started H enc _ => allocTaken_lifted os started H enc)
end Go.Proofs.Ytlkhlbieiogahaa
