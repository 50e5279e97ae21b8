/- Layer 8: Diff. -/
import Derived.Test.YtfgoaedgiomlkaaBloL
set_option linter.all false
namespace Go.Proofs.Ytfgoaedgiomlkaa
open Go.RowKit
namespace Blo

/-- Are two volumes unlike at a block? -/
def unl (f g : Int → Nat) (i : Nat) : Bool := decide (f (i : Int) ≠ g (i : Int))
def unlTo (f g : Int → Nat) (j i : Nat) : Bool := decide (i < j) && unl f g i
theorem unlTo_zero (f g : Int → Nat) : unlTo f g 0 = fun _ => false := by funext i; simp [unlTo]
theorem unlTo_succ (f g : Int → Nat) (j : Nat) (b : Bool) (hb : unl f g j = b) : unlTo f g (j + 1) = fun i => if i = j then b else unlTo f g j i := by
  funext i
  unfold unlTo
  by_cases e : i = j
  · rw [if_pos e, e, hb]; simp
  · rw [if_neg e]
    have : decide (i < j + 1) = decide (i < j) := by rw [decide_eq_decide]; omega
    rw [this]
theorem tvs_congr {n : Nat} {a b : Nat → Bool} (h : ∀ i, i < n → a i = b i) : tvs n a = tvs n b := by
  unfold tvs
  exact List.map_congr_left fun i hi => by rw [h i (List.mem_range.1 hi)]
def dfE (a b : List Nat) : Int := if manyB a.length && manyB b.length then (if a.length = b.length then 0 else 1) else 6
def dfM (a b : List Nat) : Nat → Option Nat := tof (unl (fun_ a) (fun_ b)) (fun_ b)
def dfL (a b : List Nat) : List BOp := if manyB a.length && manyB b.length then (if a.length = b.length then shortS (dfM a b) b.length else []) else []
theorem ns_at {w : World} {A : Option Addr} {n : Nat} {v : List Nat} (h : Ns w A n v) {i : Nat} (hi : i < n) : ∃ b o, A = some ⟨b, o, none⟩ ∧ w.cell? ⟨b, o + i, none⟩ = some (.int .u64 ((fun_ v (i : Int) : Nat) : Int)) := by
  obtain ⟨b, o, e, hx, hc, _⟩ := h.at_ hi
  refine ⟨b, o, e, ?_⟩
  rw [hc]
  unfold fun_ List.getD
  rw [Int.toNat_natCast, List.getElem?_eq_getElem hx]
  rfl
section
variable (w : World)
set_option maxRecDepth 100000 in
set_option maxHeartbeats 2000000 in
theorem diff_ (A B : Option Addr) (n m c d : Nat) (a b : List Nat) (ha : Ns w A n a) (hb : Ns w B m b) (hnc : n ≤ c) (hcm : c ≤ 9223372036854775807) (hmd : m ≤ d) (hdm : d ≤ 9223372036854775807) :
    Calls Try.prog 11 #[.slice A n c, .slice B m d] w fun e w' => AnsO w w' e (dfE a b) (dfL a b) := by
  obtain ⟨i0, hi0, hz0, hz1, hz2⟩ := bool_info
  have Hz := Lib.hid hz2
  clear hz2
  have hni : I64 (n : Int) := by unfold I64; omega
  have hmi : I64 (m : Int) := by unfold I64; omega
  have han := ha.len
  have hbm := hb.len
  cases h1 : manyB n with
  | false =>
    have He := Lib.hid (show dfE a b = 6 by unfold dfE; rw [← han, h1]; rfl)
    have Hv := Lib.hid (show dfL a b = [] by unfold dfL; rw [← han, h1]; rfl)
    clear han hbm
    go_enter Try.func11, Try.ntmps11
    go_wp2_with fail
    refine (volume_ _ n hni).mono ?_
    rw [h1]
    rintro e w2 ⟨rfl, rfl⟩
    go_wp2
    go_ret2
    rw [He.out, Hv.out]
    exact ⟨none, 0, 0, [], rfl, Ol.nil _ _, rfl, Below.refl _ _⟩
  | true =>
    cases h2 : manyB m with
    | false =>
      have He := Lib.hid (show dfE a b = 6 by unfold dfE; rw [← han, h1, ← hbm, h2]; rfl)
      have Hv := Lib.hid (show dfL a b = [] by unfold dfL; rw [← han, h1, ← hbm, h2]; rfl)
      clear han hbm
      go_enter Try.func11, Try.ntmps11
      go_wp2_with fail
      refine (volume_ _ n hni).mono ?_
      rw [h1]
      rintro e w2 ⟨rfl, rfl⟩
      go_wp2_with fail
      refine (volume_ _ m hmi).mono ?_
      rw [h2]
      rintro e w2 ⟨rfl, rfl⟩
      go_wp2
      go_ret2
      rw [He.out, Hv.out]
      exact ⟨none, 0, 0, [], rfl, Ol.nil _ _, rfl, Below.refl _ _⟩
    | true =>
      by_cases h3 : n = m
      · have He := Lib.hid (show dfE a b = 0 by unfold dfE; rw [← han, h1, ← hbm, h2, if_pos h3]; rfl)
        have Hv := Lib.hid (show dfL a b = shortS (dfM a b) m by unfold dfL; rw [← han, h1, ← hbm, h2, if_pos h3]; rfl)
        subst h3
        have hN := many_nat h1
        have Hbv := Lib.hid (vol_is hbm)
        have Hbl := Lib.hid (fun_low hb.2)
        clear han hbm h2
        go_enter Try.func11, Try.ntmps11
        go_wp2_with fail
        refine (volume_ _ n hni).mono ?_
        rw [h1]
        rintro e w2 ⟨rfl, rfl⟩
        go_wp2_with fail
        refine (volume_ _ n hni).mono ?_
        rw [h1]
        rintro e w2 ⟨rfl, rfl⟩
        go_wp2_with (first
          | (at_make
             refine wpList_make_blk _ rfl _ _ 49 rfl 4 i0 _ 1 1 Try.underlying49 hi0 hz0 hz1 Hz.out .i64 .i64 _ _ n rfl rfl rfl rfl (by omega) (by omega) ?_
             intro w6 hk6 hb6 hs6)
          | fail)
        have hT : w6.ownsRow w.heap.size 4 1 (.slice (some ⟨w.heap.size, 0, none⟩) n n) n (tvs n (unlTo (fun_ a) (fun_ b) 0)) := own_blk hk6 (Nat.le_refl _) (by unfold maxLen; omega) (by rw [Nat.mul_one, unlTo_zero]; exact (made_list n _).trans (tvs_false n).symm) (tvs_length _ _)
        clear hk6 hs6 h1
        go_loopw [28] (fun iv wr => ∃ j : Nat, j ≤ n ∧ iv = .int .i64 (j : Int) ∧ wr.ownsRow w.heap.size 4 1 (.slice (some ⟨w.heap.size, 0, none⟩) n n) n (tvs n (unlTo (fun_ a) (fun_ b) j)) ∧ Below w.heap.size w wr) (fun iv _ => n - (intOf iv).toNat)
        case atStart => exact ⟨0, Nat.zero_le _, rfl, hT, hb6⟩
        case round =>
          obtain ⟨j, hj, rfl, hTr, hbr⟩ := hrel
          clear hT hb6
          by_cases hlt : j < n
          · have hil : (j : Int) < (n : Int) := by omega
            have hi0' : (0 : Int) ≤ (j : Int) := by omega
            obtain ⟨p, o, rfl, ca⟩ := ns_at (ha.below hbr) hlt
            obtain ⟨q, r, rfl, cb⟩ := ns_at (hb.below hbr) hlt
            obtain ⟨-, hse, hfz⟩ := own_at hTr hlt
            obtain ⟨u, hu⟩ := Option.isSome_iff_exists.1 hse
            have hun : unl (fun_ a) (fun_ b) j = decide (fun_ a (j : Int) ≠ fun_ b (j : Int)) := rfl
            generalize fun_ a (j : Int) = x at *
            generalize fun_ b (j : Int) = y at *
            clear hse
            by_cases hxy : x = y
            · subst hxy
              have HS := Lib.hid (tvs_set (n := n) false (unlTo_succ (fun_ a) (fun_ b) j false (by rw [hun]; simp)))
              have hT7 := own_set1 hTr j (.bool false) hlt
              rw [HS.out] at hT7
              have hB7 : Below w.heap.size w (wr.setCell ⟨w.heap.size, j, none⟩ (.bool false)) := hbr.setCell (Nat.le_refl _) _
              clear hun hTr hbr
              go_wp2_with fail
              go_region
              go_wp2
              go_roundw
              case rel => exact ⟨j + 1, by omega, by go_num, hT7, hB7.drew⟩
              case measure => simp [intOf]; omega
            · have hxy2 : ((x : Int) == (y : Int)) = false := by simp; omega
              have HS := Lib.hid (tvs_set (n := n) true (unlTo_succ (fun_ a) (fun_ b) j true (by rw [hun]; simp [hxy])))
              have hT7 := own_set1 hTr j (.bool true) hlt
              rw [HS.out] at hT7
              have hB7 : Below w.heap.size w (wr.setCell ⟨w.heap.size, j, none⟩ (.bool true)) := hbr.setCell (Nat.le_refl _) _
              have hxy3 : ((x : Int) != (y : Int)) = true := by simp; omega
              clear hun hTr hbr hxy
              go_wp2_with fail
              go_region
              go_wp2
              go_roundw
              case rel => exact ⟨j + 1, by omega, by go_num, hT7, hB7.drew⟩
              case measure => simp [intOf]; omega
          · have hin : (n : Int) ≤ (j : Int) := by omega
            have hje : j = n := by omega
            rw [hje] at hTr
            have hTn : wr.ownsRow w.heap.size 4 1 (.slice (some ⟨w.heap.size, 0, none⟩) n n) n (tvs n (unl (fun_ a) (fun_ b))) := by
              rw [tvs_congr (b := unlTo (fun_ a) (fun_ b) n) fun i hi => by simp [unlTo, hi]]
              exact hTr
            have hbb := hb.below hbr
            rw [Hbv.out] at hbb
            clear hje hTr
            go_wp2_with fail
            refine (shortly_ wr B (some ⟨w.heap.size, 0, none⟩) n d n _ (unl (fun_ a) (fun_ b)) hN hbb Hbl.out (rd_own hTn)).mono ?_
            rintro e w8 ⟨v8, n8, L8, rfl, hO8, hL8, hb8⟩
            obtain ⟨A8, c8, rfl, -, -, -⟩ := own_form hO8.row
            have HL8 := Lib.hid hL8
            clear hL8
            go_wp2
            go_ret2
            rw [He.out, Hv.out]
            exact ⟨A8, n8, c8, L8, rfl, hO8.mono hbr.size, HL8.out, below_step hbr hb8 (Nat.le_refl _)⟩
      · have He := Lib.hid (show dfE a b = 1 by unfold dfE; rw [← han, h1, ← hbm, h2, if_neg h3]; rfl)
        have Hv := Lib.hid (show dfL a b = [] by unfold dfL; rw [← han, h1, ← hbm, h2, if_neg h3]; rfl)
        have h4 : ¬ (n : Int) = (m : Int) := by omega
        clear han hbm h3
        go_enter Try.func11, Try.ntmps11
        go_wp2_with fail
        refine (volume_ _ n hni).mono ?_
        rw [h1]
        rintro e w2 ⟨rfl, rfl⟩
        go_wp2_with fail
        refine (volume_ _ m hmi).mono ?_
        rw [h2]
        rintro e w2 ⟨rfl, rfl⟩
        go_wp2
        go_ret2
        rw [He.out, Hv.out]
        exact ⟨none, 0, 0, [], rfl, Ol.nil _ _, rfl, Below.refl _ _⟩
end
end Blo
end Go.Proofs.Ytfgoaedgiomlkaa
