/- Proves AllocAll of layer 5 (alloc), for every input, with no condition: free, waiting and held ones are all together. -/
import Derived.Test.YtlkhlbieiogahaaAlcL
import Derived.Deep.DeepCutAuto
import Derived.Deep.CutBlock
namespace Go.Proofs.Ytlkhlbieiogahaa
open Go.ChangeShapes Go.WideShapes Go.ChangeAt Go.RowKit Go.Maps

/-- How many are held. -/
def heldR (N : Nat) (c : Nat → Int) : Nat := cntIn (fun x => decide (0 < x)) c 0 N
theorem all_cnt {c : Nat → Int} : ∀ {N : Nat}, Rng N c → cntIn (· == 0) c 0 N + cntIn (· == -1) c 0 N + cntIn (fun x => decide (0 < x)) c 0 N = N
  | 0, _ => rfl
  | N + 1, h => by
    have ih := all_cnt (N := N) fun j hj => h j (by omega)
    have hN := h N (by omega)
    unfold cntIn
    rw [Nat.zero_add]
    by_cases h0 : c N = 0
    · simp [h0]; omega
    · by_cases h1 : c N = -1
      · simp [h1]; omega
      · have h2 : 0 < c N := by omega
        simp [h0, h1, h2]; omega
theorem count_held {N : Nat} {c : Nat → Int} {i : Nat} (h : i < N) : (0 < countR N c (i : Int)) ↔ 0 < c i := by
  unfold countR
  rw [if_neg (by omega), Int.toNat_natCast]
  omega
/-- How a script's walk stands: an allocator, and what was there. -/
structure ScrAt (w w' : World) (g N : Nat) : Prop where
  al : ∃ c, Al w' g N c
  below : Below w.heap.size w w'

set_option maxRecDepth 100000 in
set_option maxHeartbeats 1000000 in
theorem allocAll_bad (z : Int) (S : Option Addr) (sn sc : Nat) (w : World) (hz : ¬ (1 ≤ z ∧ z ≤ 4096)) :
    Calls Try.prog 5 #[.int .i64 z, .slice S sn sc] w fun e w' => e = .returned (.bool true) ∧ Below w.heap.size w w' := by
  go_enter Try.func5, Try.ntmps5
  go_wp2_with fail
  refine (new_bad z _ hz).mono ?_
  rintro e w' ⟨rfl, rfl⟩
  go_wp2_with fail
  refine (alive_ _).mono ?_
  rintro e w5 ⟨rfl, hb5⟩
  go_wp2
  go_ret
  exact ⟨rfl, hb5⟩

set_option maxRecDepth 100000 in
set_option maxHeartbeats 4000000 in
theorem allocAll_good (n : Nat) (S : Option Addr) (sn sc : Nat) (l : List ActV) (w : World) (h1 : 0 < n) (h2 : n ≤ 4096)
    (hl : (Shp.slice actShp 24).R w [.slice S sn sc] l) (hsn : sn ≤ 9223372036854775807) :
    Calls Try.prog 5 #[.int .i64 (n : Int), .slice S sn sc] w fun e w' => e = .returned (.bool true) ∧ Below w.heap.size w w' := by
  go_enter Try.func5, Try.ntmps5
  go_wp2_with fail
  refine (new_ n w h1 h2).mono ?_
  rintro e w1 ⟨g, rfl, hg, k1, hb1⟩
  go_wp2_with fail
  refine (alive_ _).mono ?_
  rintro e w5 ⟨rfl, hb5⟩
  have h5 : ScrAt w w5 g n := ⟨⟨_, k1.below hb5⟩, hb1.trans (hb5.mono hb1.size)⟩
  have h0 : w.heap.size ≤ g := by omega
  clear hb1 hb5 k1 hg
  go_wp2_with fail
  go_loopw [29] (fun iv wr => ∃ k : Nat, k ≤ sn ∧ iv = .int .i64 (k : Int) ∧ ScrAt w wr g n) (fun iv _ => sn - (intOf iv).toNat)
  case atStart => exact ⟨0, Nat.zero_le _, rfl, h5⟩
  case round =>
    obtain ⟨k, hk, rfl, ⟨c, hA⟩, hb⟩ := hrel
    clear h5
    have hbs := hb.size
    by_cases hlt : k < sn
    · obtain ⟨b, o, rfl, kd, f, m, hkd, hf, hm, e0, e1, e2⟩ := acts_later hl hb hlt
      have hkl : (k : Int) < (sn : Int) := by omega
      have el := cell_lt e0
      have hb' : Below wr.heap.size wr (wr.alloc (.cells #[.int .u8 (kd : Int), .int .i64 f, .int .i64 m] 35)) := (Below.refl _ _).alloc (Nat.le_refl _) _
      have hac := Blk.new wr 35 #[.int .u8 (kd : Int), .int .i64 f, .int .i64 m] rfl
      have hA6 := hA.below hb'
      have hB6 := hb.trans (hb'.mono hbs)
      clear hl hb' hb
      go_upto_block 2 with fail
      clear e0 e1 e2 el hA
      have hnw : w.heap.size ≤ wr.heap.size := hbs
      generalize wr.alloc (.cells #[.int .u8 (kd : Int), .int .i64 f, .int .i64 m] 35) = w6 at *
      generalize wr.heap.size = d at *
      have a0 := hac.cell (j := 0) (u := .int .u8 (kd : Int)) rfl
      have a1 := hac.cell (j := 1) (u := .int .i64 f) rfl
      have a2 := hac.cell (j := 2) (u := .int .i64 m) rfl
      have kk : 0 ≤ (kd : Int) := by omega
      have hs6 := hB6.size
      go_cut [8] (fun _ wc => ScrAt w wc g n)
      case first =>
        have hcs : kd % 4 = 0 ∨ kd % 4 = 1 ∨ kd % 4 = 2 ∨ kd % 4 = 3 := by omega
        rcases hcs with e | e | e | e
        all_goals
          have q := mod4 e
          clear e
        · go_wp2_with fail
          refine (take_ g n c _ m hA6 hm).mono ?_
          rintro e wA ⟨rfl, hA, htA⟩
          go_wp2_with fail
          go_meet
          exact ⟨⟨_, hA⟩, hB6.trans (htA.below h0 hs6)⟩
        · go_wp2_with fail
          refine (share_ g n c _ f m hA6 hf hm).mono ?_
          rintro e wA ⟨rfl, hA, htA⟩
          go_wp2_with fail
          go_meet
          exact ⟨⟨_, hA⟩, hB6.trans (htA.below h0 hs6)⟩
        · go_wp2_with fail
          refine (drop_ g n c _ f m hA6 hf hm).mono ?_
          rintro e wA ⟨rfl, hA, htA⟩
          go_wp2_with fail
          go_meet
          exact ⟨⟨_, hA⟩, hB6.trans (htA.below h0 hs6)⟩
        · go_wp2_with fail
          refine (settle_ g n c _ hA6).mono ?_
          rintro e wA ⟨rfl, hA, htA⟩
          go_wp2_with fail
          go_meet
          exact ⟨⟨_, hA⟩, hB6.trans (htA.below h0 hs6)⟩
      case rest =>
        obtain ⟨⟨c', hC⟩, hBc⟩ := hcut
        clear hA6 hac a0 a1 a2 hB6 hs6
        go_wp2_with fail
        go_loopw [9, 61] (fun nv iv wx => ∃ i : Nat, i ≤ n ∧ iv = .int .i64 (i : Int) ∧ nv = .int .i64 ((cntIn (fun x => decide (0 < x)) c' 0 i : Nat) : Int) ∧ wc = wx) (fun _ iv _ => n - (intOf iv).toNat)
        case atStart => exact ⟨0, Nat.zero_le _, rfl, rfl, rfl⟩
        case round =>
          obtain ⟨i, hi, rfl, rfl, rfl⟩ := hrel
          have hle := cntIn_le (fun x => decide (0 < x)) c' 0 i
          by_cases hin : i < n
          · have hil : (i : Int) < (n : Int) := by omega
            have hz : (0 : Nat) + i = i := Nat.zero_add i
            by_cases hx : 0 < c' i
            · have Hn := Lib.hid (cntIn_yes (p := fun x => decide (0 < x)) (c := c') (lo := 0) (k := i) (by rw [hz]; simpa using hx))
              have hx2 := (count_held hin).2 hx
              generalize cntIn (fun x => decide (0 < x)) c' 0 i = q at *
              go_wp2_with fail
              refine (count_ g n c' _ i hC).mono ?_
              rintro e w' ⟨rfl, rfl⟩
              go_wp2
              go_roundw
              case rel => exact ⟨i + 1, by omega, by go_num, by rw [Hn.out]; go_num, trivial⟩
              case measure => simp [intOf]; omega
            · have Hn := Lib.hid (cntIn_no (p := fun x => decide (0 < x)) (c := c') (lo := 0) (k := i) (by rw [hz]; simpa using hx))
              have hx2 : countR n c' (i : Int) ≤ 0 := by have := mt (count_held hin).1 hx; omega
              generalize cntIn (fun x => decide (0 < x)) c' 0 i = q at *
              go_wp2_with fail
              refine (count_ g n c' _ i hC).mono ?_
              rintro e w' ⟨rfl, rfl⟩
              go_wp2
              go_roundw
              case rel => exact ⟨i + 1, by omega, by go_num, by rw [Hn.out], trivial⟩
              case measure => simp [intOf]; omega
          · have hin' : (n : Int) ≤ (i : Int) := by omega
            have he : i = n := by omega
            have hall : cntIn (· == 0) c' 0 i + cntIn (· == -1) c' 0 i + cntIn (fun x => decide (0 < x)) c' 0 i = n := by rw [he]; exact all_cnt hC.rng
            have E1 := Lib.hid (show freeR n c' = ((cntIn (· == 0) c' 0 i : Nat) : Int) by unfold freeR; rw [he])
            have E2 := Lib.hid (show waitR n c' = ((cntIn (· == -1) c' 0 i : Nat) : Int) by unfold waitR; rw [he])
            clear he
            generalize cntIn (fun x => decide (0 < x)) c' 0 i = q3 at *
            generalize cntIn (· == 0) c' 0 i = q1 at *
            generalize cntIn (· == -1) c' 0 i = q2 at *
            go_wp2_with fail
            refine (free_ g n c' _ hC).mono ?_
            rw [E1.out]
            rintro e w' ⟨rfl, rfl⟩
            go_wp2_with fail
            refine (waiting_ g n c' _ hC).mono ?_
            rw [E2.out]
            rintro e w' ⟨rfl, rfl⟩
            go_wp2_with fail
            refine (free_ g n c' _ hC).mono ?_
            rw [E1.out]
            rintro e w' ⟨rfl, rfl⟩
            go_wp2_with fail
            refine (waiting_ g n c' _ hC).mono ?_
            rw [E2.out]
            rintro e w' ⟨rfl, rfl⟩
            have hne : ((q1 : Int) + (q2 : Int) + (q3 : Int) != (n : Int)) = false := by
              have : (q1 : Int) + (q2 : Int) + (q3 : Int) = (n : Int) := by omega
              simp [this]
            go_wp2
            go_roundw
            case rel => exact ⟨k + 1, by omega, by go_num, ⟨_, hC⟩, hBc⟩
            case measure => simp [intOf]; omega
    · have hkl : (sn : Int) ≤ (k : Int) := by omega
      go_wp2
      go_ret
      exact ⟨rfl, hb⟩

theorem allocAll_walk (z : Int) (S : Option Addr) (sn sc : Nat) (l : List ActV) (w : World) (hl : (Shp.slice actShp 24).R w [.slice S sn sc] l) :
    Calls Try.prog 5 #[.int .i64 z, .slice S sn sc] w fun e w' => e = .returned (.bool true) ∧ Below w.heap.size w w' := by
  by_cases hz : 1 ≤ z ∧ z ≤ 4096
  · obtain ⟨n, rfl⟩ := Int.eq_ofNat_of_zero_le (show 0 ≤ z by omega)
    exact allocAll_good n S sn sc l w (by omega) (by omega) hl (acts_len hl)
  · exact allocAll_bad z S sn sc w hz

set_option maxRecDepth 100000 in
theorem allocAll_lifted (os : Os) (started : os.Started) (H : Type) (enc : TypeId × Value → H) :
    ReturnsInHanded {} Try.checked os 5 .any (Rows.allocAllSpec.pre6 enc Try.prog Try.f5 Rows.allocAllRow.domain false) (Rows.allocAllSpec.post enc Try.prog Try.f5 false true false false) := by
  refine law_lifted (C := Try.checked) (tb := 4) own_ started (by kernel_rfl) Try.func5
    (ChangeSpec.witness6 (enc := enc) (C := Try.checked) false ⟨#[], #[.int .i64 0, .slice none 0 0], []⟩ 8 (by kernel_rfl) (by kernel_rfl) (by kernel_rfl) (by kernel_rfl))
    rfl rfl Try.underlying4 laidOut_ (by kernel_rfl) (fun ds h => by match ds, h with | [_, _], _ => rfl) ?_
  intro W base args ds p hval0 hA0 _ hsz0
  have hval : ∀ (j : Nat) t v, Try.f5.params[j]? = some t → args[j]? = some v → Value.okWide Try.prog W .any base t v := hval0
  have hA : DataW.TrodAll enc Try.prog W 0 (fun _ => true) true Try.f5.params.toList args.toList ds p := hA0
  have hsz : (DataW.weightsEach Try.prog Try.f5.params.toList ds).all (· ≤ reachBytes) = true := hsz0
  clear hval0 hA0 hsz0
  rw [Try.params5] at hA hval hsz
  obtain ⟨v0, v1, d0, d1, p0, p1, rfl, rfl, rfl, h0, h1⟩ := trodAll_two hA
  obtain ⟨z0, rfl, hz0⟩ := arg_int _ _ Try.underlying3 (hval 0 _ v0 rfl rfl) h0 wf_i64
  obtain ⟨A1, n1, c1, xs1, rfl, r1, b1⟩ := arg_slice ops_acts Try.underlying22 (hval 1 _ v1 rfl rfl) h1 (weight_at hsz (j := 1) rfl rfl)
  exact allocAll_walk z0 A1 n1 c1 xs1 W r1

/-- AllocAll, for every input: the statement as it was given. -/
theorem allocAll_holds : Rows.AllocAllSaid :=
  OpenClaim.holds_of_wide 5 Try.f5 rfl rfl rfl rfl rfl rfl rfl ⟨rfl, rfl, rfl, rfl, rfl⟩ rfl rfl rfl rfl rfl (by kernel_rfl) Try.func5 (by kernel_rfl)
    (of_decide_eq_true (by kernel_rfl)) (by unfold Func.isWrapper; first | (rw [if_pos (by decide +kernel)]; kernel_rfl) | (rw [if_neg (by decide +kernel)]; exact ⟨rfl, rfl⟩))
    (fun os started H enc _ => allocAll_lifted os started H enc)
end Go.Proofs.Ytlkhlbieiogahaa
