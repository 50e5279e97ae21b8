/- Layer 9: the document's shows, View. -/
import Derived.Test.YtfdfjnepfgabaaaDelS
set_option linter.all false
namespace Go.Proofs.Ytfdfjnepfgabaaa
open Go.RowKit

theorem ra_cells {w : World} {g : Nat} {l : List Ext} (h : Blk w g 73 (raN 1024 (atL l))) {i : Nat} (hi : i < 1024) {x : Bool} {p r : Int} (hx : ab (atL l (i : Int)) = [.bool x, .int .i64 p, .int .i64 r]) :
    w.cell? ⟨g, i * 3, none⟩ = some (.bool x) ∧ w.cell? ⟨g, i * 3 + 1, none⟩ = some (.int .i64 p) ∧ w.cell? ⟨g, i * 3 + 2, none⟩ = some (.int .i64 r) := by
  have q : ∀ j (u : Value), j < 3 → (ab (atL l (i : Int)))[j]? = some u → w.cell? ⟨g, i * 3 + j, none⟩ = some u := fun j u hj hu => by
    refine h.cell ?_
    unfold raN
    rw [List.getElem?_toArray, abs_at _ hi hj]
    exact hu
  rw [hx] at q
  exact ⟨q 0 _ (by omega) rfl, q 1 _ (by omega) rfl, q 2 _ (by omega) rfl⟩
theorem end_iff {l : List Ext} {lo : Int} (h : listFrom lo l = true) {N : Nat} (hlo : 0 ≤ lo) : endL l ≤ (N : Int) ↔ ∀ i : Nat, N ≤ i → i < 1024 → atL l (i : Int) = none := by
  constructor
  · intro he i hi _
    exact at_beyond (endL_ends h) (by omega)
  · intro ha
    rcases snoc_cases l with rfl | ⟨p, x, rfl⟩
    · simp [endL]
    · have he : endL (p ++ [x]) = x.off + x.len := by simp [endL]
      have hx := may_len (mays_list (listFrom_less h hlo) x (by simp))
      rw [he]
      rcases Int.lt_or_le (N : Int) (x.off + x.len) with hlt | hle
      · exfalso
        have h1 := ha (x.off + x.len - 1).toNat (by omega) (by omega)
        rw [show (((x.off + x.len - 1).toNat : Nat) : Int) = x.off + x.len - 1 by omega] at h1
        rw [at_mem h (x := x) (by simp) (by simp [Ext.has]; omega)] at h1
        cases h1
      · exact hle
theorem bk_bounds {l : List Ext} {lo i p r : Int} (h : listFrom lo l = true) (hx : atL l i = some (p, r)) : 0 ≤ p ∧ p ≤ 1099511627776 ∧ 0 ≤ r ∧ r ≤ 1099511627776 := by
  obtain ⟨x, hm, hh⟩ := at_some hx
  have h1 := at_mem h hm hh
  rw [hx] at h1
  simp only [Option.some.injEq, Prod.mk.injEq] at h1
  have h2 := may_len (listFrom_mem h x hm).1
  simp only [Ext.has, Bool.and_eq_true, decide_eq_true_eq] at hh
  omega
theorem blk_not_row {W : World} {g : Nat} {t e : TypeId} {cs : Array Value} (h : Blk W g t cs) (hte : t ≠ e) {base size k : Nat} {v : Value} {xs : List Value} (hr : W.ownsRow base e size v k xs) : some g ≠ v.ownBlock := by
  rcases hr.2 with ⟨rfl, _⟩ | ⟨g', cap, cur, rfl, _, hgb, _⟩
  · simp [Value.ownBlock]
  · intro e'
    obtain rfl : g = g' := by simpa [Value.ownBlock] using e'
    have := (show W.heap[g]? = _ from h).symm.trans hgb
    simp at this
    exact hte this.2
section
variable (w : World)
set_option maxRecDepth 100000 in
set_option maxHeartbeats 1000000 in
theorem rshows_ (x : Bool) (p r : Int) (U : Option Addr) (m d : Nat) (u : List Nat) (hp : 0 ≤ p ∧ p ≤ 1099511627776) (hu : Ns w U m u) (hm : m ≤ 9223372036854775807) :
    Calls Try.prog 29 #[.agg #[.bool x, .int .i64 p, .int .i64 r], .slice U m d] w fun e w' => e = .returned (.int .u64 (((if x then unitOf u p else 0 : Nat)) : Int)) ∧ Below w.heap.size w w' := by
  have hb : Below w.heap.size w (w.alloc (.cells #[.bool x, .int .i64 p, .int .i64 r] 73)) := (Below.refl _ _).alloc (Nat.le_refl _) _
  cases x with
  | false =>
    go_enter Try.func29, Try.ntmps29
    go_wp2
    go_ret
    exact ⟨rfl, hb⟩
  | true =>
    obtain ⟨q, rfl⟩ := Int.eq_ofNat_of_zero_le hp.1
    have Hl := Lib.hid hu.len
    by_cases hq : q < m
    · have hqi : (q : Int) < (m : Int) := by omega
      have hq0 : (0 : Int) ≤ (q : Int) := by omega
      have hu2 := hu.below hb
      obtain ⟨b, o, rfl, hx, hc, hlow⟩ := hu2.at_ hq
      have Hv := Lib.hid (show unitOf u (q : Int) = u[q] by unfold unitOf; rw [if_pos (by have := Hl.out; omega), Int.toNat_natCast]; simp [hx])
      clear hu hu2
      go_enter Try.func29, Try.ntmps29
      go_wp2
      go_ret
      simp only [if_true]
      rw [Hv.out]
      exact ⟨rfl, hb⟩
    · have hqi : (m : Int) ≤ (q : Int) := by omega
      have Hv := Lib.hid (show unitOf u (q : Int) = 0 by unfold unitOf; rw [if_neg (by have := Hl.out; omega)])
      go_enter Try.func29, Try.ntmps29
      go_wp2
      go_ret
      simp only [if_true]
      rw [Hv.out]
      exact ⟨rfl, hb⟩
set_option maxRecDepth 100000 in
set_option maxHeartbeats 4000000 in
theorem rview_ (A : Option Addr) (n c : Nat) (l : List Ext) (z : Int) (U : Option Addr) (m d : Nat) (u : List Nat) (h : Es w A n l) (hn : n ≤ 9223372036854775807) (hz : I64 z) (hu : Ns w U m u) (hm : m ≤ 9223372036854775807) :
    Calls Try.prog 10 #[.slice A n c, .int .i64 z, .slice U m d] w fun e w' => Blo.AnsN w w' e (vwE l z) (vwL l z u) := by
  unfold I64 at hz
  obtain ⟨i1, hi1, hy0, hy1, hy2⟩ := u64_info
  have Hy := Lib.hid hy2
  clear hy2
  go_enter Try.func10, Try.ntmps10
  go_wp2_with fail
  refine (rright_ _ A n c l h hn).mono ?_
  cases hr : rightB l with
  | false =>
    rintro e w2 ⟨rfl, hb2⟩
    go_wp2
    go_ret2
    exact view_no (by simp [vwB, hr]) rfl hb2
  | true =>
    rintro e w2 ⟨rfl, hb2⟩
    have hl0 := (right_is.1 hr).1
    by_cases hz0 : 0 ≤ z
    · by_cases hz1 : z ≤ 1024
      · obtain ⟨N, rfl⟩ : ∃ N : Nat, z = (N : Int) := Int.eq_ofNat_of_zero_le hz0
        have hN : N ≤ 1024 := by omega
        have h2 := h.below hb2
        go_wp2_with fail
        refine (rall_ _ A n c l h2 hr).mono ?_
        rintro e w3 ⟨rfl, hk3, hb3⟩
        have hB3 := below_step hb2 hb3 (Nat.le_refl _)
        have hs2 := hb2.size
        generalize w2.heap.size = g at *
        have Hei := Lib.hid (end_iff hl0 (N := N) (Int.le_refl 0))
        have Hbk := Lib.hid fun (i : Nat) (p r : Int) (q : atL l (i : Int) = some (p, r)) => bk_bounds hl0 q
        have Hlow := Lib.hid hu.2
        go_wp2_with fail
        go_loopw [9, 10] (fun ov iv wr => ∃ i : Nat, i ≤ 1024 ∧ iv = .int .i64 (i : Int) ∧ wr.ownsRow w.heap.size 51 1 ov (min i N) (nvs (Blo.vol (min i N) (showF l u))) ∧ Blk wr g 73 (raN 1024 (atL l)) ∧ Below w.heap.size w wr ∧ Hid (∀ j : Nat, N ≤ j → j < i → atL l (j : Int) = none)) (fun _ iv _ => 1024 - (intOf iv).toNat)
        case atStart => exact ⟨0, Nat.zero_le _, rfl, by rw [Nat.zero_min]; exact World.ownsRow_nil _ _ _ _, hk3, hB3, Lib.hid fun j _ hj => by omega⟩
        case round =>
          obtain ⟨i, hi, rfl, hO, hk, hb, hno⟩ := hrel
          clear hk3 hB3 hb3
          have hbs := hb.size
          by_cases hlt : i < 1024
          · have hiI : (i : Int) < 1024 := by omega
            have hi0 : (0 : Int) ≤ (i : Int) := by omega
            obtain ⟨x, p, r, hab, hsh, hpb⟩ : ∃ x p r, ab (atL l (i : Int)) = [.bool x, .int .i64 p, .int .i64 r] ∧ showF l u (i : Int) = (if x then unitOf u p else 0) ∧ (0 ≤ p ∧ p ≤ 1099511627776) ∧ (x = false ↔ atL l (i : Int) = none) := by
              cases hq : atL l (i : Int) with
              | none => exact ⟨false, 0, 0, rfl, by unfold showF; rw [hq]; rfl, by omega, by simp⟩
              | some v =>
                obtain ⟨p, r⟩ := v
                have := Hbk.out i p r hq
                exact ⟨true, p, r, rfl, by unfold showF; rw [hq]; rfl, ⟨this.1, this.2.1⟩, by simp⟩
            obtain ⟨d0, d1, d2⟩ := ra_cells hk hlt hab
            have Hsh := Lib.hid hsh
            have Hxn := Lib.hid hpb.2
            have hpb := hpb.1
            clear hab hsh
            by_cases hiN : i < N
            · have hge : decide ((N : Int) ≤ (i : Int)) = false := decide_eq_false (by omega)
              have hiN2 : (i : Int) < (N : Int) := by omega
              have Hmin := Lib.hid (show min (i + 1) N = min i N + 1 by omega)
              have Hmi := Lib.hid (show min i N = i by omega)
              have hmb : min i N ≤ 1024 := by omega
              have hvs : nvs (Blo.vol (min i N) (showF l u)) ++ [Value.int .u64 ((showF l u (i : Int) : Nat) : Int)] = nvs (Blo.vol (min (i + 1) N) (showF l u)) := by
                rw [Hmin.out, Hmi.out]
                simp [Blo.vol, List.range_succ, nvs]
              have Hvs := Lib.hid hvs
              clear hvs
              generalize hmm : min i N = k at *
              clear hmm
              obtain ⟨A9, c9, rfl, -, -, -⟩ := own_form hO
              go_wp2_with fail
              refine (rshows_ wr x p r U m d u hpb (hu.below hb) hm).mono ?_
              rw [← Hsh.out]
              rintro e w6 ⟨rfl, hb6⟩
              have hk6 := hk.keep hb6
              have hO6 := own_keep hO hb6
              have hB6 := below_step hb hb6 (Nat.le_refl _)
              have hs6 := hb6.size
              have hrd : Rd (w6.alloc (.cells #[.int .u64 ((showF l u (i : Int) : Nat) : Int)] 51)) (some ⟨w6.heap.size, 0, none⟩) 1 1 [.int .u64 ((showF l u (i : Int) : Nat) : Int)] := Rd.new w6 #[.int .u64 ((showF l u (i : Int) : Nat) : Int)] 51 (0, 0) rfl
              go_wp2_with (first
                | (at_builtin
                   go_must (refine wpList_app _ rfl (.tmp 43) (.tmp 50) _ rfl w.heap.size 51 i1 _ 1 8 Try.underlying23 hi1 hy0 hy1 Hy.out rfl (by decide) (.slice A9 k c9) k _ rfl (own_keep hO6 ((Below.refl _ _).alloc (Nat.le_refl _) _)) _ 1 1 [.int .u64 ((showF l u (i : Int) : Nat) : Int)] rfl (fun h => by cases h) hrd (by simp [Value.oneCell']) (by unfold maxLen; omega) (by omega) (by simp; omega) ?_)
                   intro v3 w7 hown3 hg3 hat3))
              have hk7 : Blk w7 g 73 (raN 1024 (atL l)) := (hk6.alloc _).grown hg3 (blk_not_row hk6 (by decide) hO6)
              have hB7 : Below w.heap.size w w7 := (hB6.alloc hB6.size _).grown hg3 (by simp; omega) (fun q hq => (hO6.lt q hq).1)
              rw [Hvs.out, ← Hmin.out] at hown3
              go_roundw
              case rel => exact ⟨i + 1, by omega, by go_num, hown3, hk7, hB7, Lib.hid fun j h1 h2 => by omega⟩
              case measure => simp [intOf]; omega
            · have hge : decide ((N : Int) ≤ (i : Int)) = true := decide_eq_true (by omega)
              have hiN2 : (N : Int) ≤ (i : Int) := by omega
              have Hmin := Lib.hid (show min (i + 1) N = min i N by omega)
              have Hge := Lib.hid (show N ≤ i by omega)
              cases x with
              | false =>
                have hat := Hxn.out.1 rfl
                have Hno := Lib.hid (show ∀ j : Nat, N ≤ j → j < i + 1 → atL l (j : Int) = none from fun j h1 h2 => by
                  by_cases e : j = i
                  · subst e; exact hat
                  · exact hno.out j h1 (by omega))
                clear hat hno
                go_wp2
                go_roundw
                case rel => exact ⟨i + 1, by omega, by go_num, by rw [Hmin.out]; exact hO, hk, hb, Hno⟩
                case measure => simp [intOf]; omega
              | true =>
                have Hvb := Lib.hid (show vwB l (N : Int) = false by
                  have h1 : ¬ endL l ≤ (N : Int) := fun e => by
                    have := Hxn.out.2 (Hei.out.1 e i Hge.out hlt)
                    cases this
                  simp [vwB]
                  omega)
                clear hno
                go_wp2
                go_ret2
                exact view_no Hvb.out rfl hb
          · have hge : (1024 : Int) ≤ (i : Int) := by omega
            have he : i = 1024 := by omega
            have Hmin := Lib.hid (show min i N = N by omega)
            have Hvb := Lib.hid (show vwB l (N : Int) = true by
              have h1 := Hei.out.2 fun j h1 h2 => hno.out j h1 (by omega)
              simp [vwB, hr]
              omega)
            rw [Hmin.out] at hO
            clear he hno
            obtain ⟨A9, c9, rfl, -, -, -⟩ := own_form hO
            go_wp2
            go_ret2
            have HE := Lib.hid (show vwE l (N : Int) = 0 by unfold vwE; rw [Hvb.out]; rfl)
            have HL := Lib.hid (show vwL l (N : Int) u = Blo.vol N (showF l u) by unfold vwL; rw [Hvb.out]; rfl)
            rw [HE.out, HL.out]
            exact ⟨A9, N, c9, rfl, ⟨hO, Blo.vol_low fun i => show_low Hlow.out l i⟩, hb⟩
      · go_wp2
        go_ret2
        exact view_no (by simp [vwB, hr]; omega) rfl hb2
    · go_wp2
      go_ret2
      exact view_no (by simp [vwB, hr]; omega) rfl hb2
end
end Go.Proofs.Ytfdfjnepfgabaaa
