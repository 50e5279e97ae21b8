/- Layer 11: the document's May, of one kind. -/
import Derived.Test.YtganoklclnbjkaaLanR
import Derived.BigRegion
set_option linter.all false
namespace Go.Proofs.Ytganoklclnbjkaa
open Go.RowKit
namespace Lan
open Str (Rec mayB opOf FitR Rdt Rcl ra oa k4 k8 rc_blk farB zeroB)
open Blo (I64 apL apE GotN AnsN)
section
variable (w : World)
set_option maxRecDepth 100000 in
set_option maxHeartbeats 8000000 in
theorem rmay2_ (r : Rec) (X : Option Addr) (m c : Nat) (h : Rdt w r X m c) (hk : r.k = 2) : Calls Try.prog 21 #[.agg (ra r (.slice X m c))] w fun e w' => e = .returned (.bool (mayB r)) ∧ Below w.heap.size w w' := by
  have hfit := h.fit
  have HX := Lib.hid (may_x2 hk)
  have Hm := Lib.hid h.len
  have hk1 : (r.k == 1) = false := by simp; omega
  have hk2 : (r.k == 2) = true := by simpa using hk
  clear hk
  obtain ⟨W, hW⟩ : ∃ W, ((w.alloc (.cells (ra r (.slice X m c)) 29)).alloc (.cells #[.int .i64 r.k, .int .i64 0, .int .i64 0, .int .i64 0, .int .i64 0, .int .i64 r.off, .int .i64 0, .slice X m c] 29)).drew = W := ⟨_, rfl⟩
  have hbW : Below w.heap.size w W := by rw [← hW]; exact below_drewN (((Below.refl _ _).alloc (Nat.le_refl _) _).alloc (by simp) _) 1
  have hr2 : Blk W w.heap.size 29 (ra r (.slice X m c)) := by rw [← hW]; exact (Blk.new w _ _ rfl).alloc _
  have hx2 : Blk W (w.heap.size + 1) 29 (ra (xr2 r) (.slice X m c)) := by rw [← hW]; exact Blk.new (w.alloc _) _ _ (by simp)
  have hrd := h.below hbW
  have hxd : Rdt W (xr2 r) X m c := xr2_dat hrd
  obtain ⟨c0, c1, c2, c3, c4, c5, c6, c7⟩ := k8 hr2
  obtain ⟨y0, y1, y2, y3, y4, y5, y6, y7⟩ := k8 hx2
  go_enter Try.func21, Try.ntmps21
  by_cases t1 : (1 : Int) ≤ (m : Int)
  · by_cases t2 : (m : Int) ≤ 64
    · have HB := Lib.hid (show mayB r = (decide (xr2 r = r) && farsB r) by rw [HX.out, ← Hm.out, decide_eq_true (show 1 ≤ m by omega), decide_eq_true (show m ≤ 64 by omega)]; rfl)
      clear HX
      go_wp2_with fail
      go_region
      go_wp2_with fail
      refine (Str.one_ W (xr2 r) r X X m c m c hxd hrd).mono ?_
      cases hq : decide (xr2 r = r) with
      | false =>
        have HQ := Lib.hid (show mayB r = false by rw [HB.out, hq]; rfl)
        rintro e w4 ⟨rfl, hb4⟩
        have hB4 := below_step hbW hb4 (Nat.le_refl _)
        clear hq HB
        go_wp2
        go_ret
        rw [HQ.out]
        exact ⟨rfl, hB4⟩
      | true =>
        have HB0 := Lib.hid (show mayB r = farsB r by rw [HB.out, hq]; rfl)
        rintro e w4 ⟨rfl, hb4⟩
        have hB4 := below_step hbW hb4 (Nat.le_refl _)
        obtain ⟨d0, d1, d2, d3, d4, d5, d6, d7⟩ := k8 (hr2.keep hb4)
        clear hq HB c0 c1 c2 c3 c4 c5 c6 c7 y0 y1 y2 y3 y4 y5 y6 y7
        go_wp2_with fail
        refine (number_ w4 r.sh hfit.sh).mono ?_
        cases hq : farB r.sh with
        | false =>
          have HQ := Lib.hid (show mayB r = false by rw [HB0.out]; unfold farsB; rw [hq]; simp)
          rintro e w5 ⟨rfl, rfl⟩
          clear hq HB0
          go_wp2
          go_ret
          rw [HQ.out]
          exact ⟨rfl, hB4⟩
        | true =>
          have g0 := Lib.hid hq
          clear hq
          rintro e w5 ⟨rfl, rfl⟩
          go_wp2_with fail
          refine (number_ w4 r.sn hfit.sn).mono ?_
          cases hq : farB r.sn with
          | false =>
            have HQ := Lib.hid (show mayB r = false by rw [HB0.out]; unfold farsB; rw [g0.out, hq]; simp)
            rintro e w5 ⟨rfl, rfl⟩
            clear hq HB0
            go_wp2
            go_ret
            rw [HQ.out]
            exact ⟨rfl, hB4⟩
          | true =>
            have g1 := Lib.hid hq
            clear hq
            rintro e w5 ⟨rfl, rfl⟩
            go_wp2_with fail
            refine (number_ w4 r.ba hfit.ba).mono ?_
            cases hq : farB r.ba with
            | false =>
              have HQ := Lib.hid (show mayB r = false by rw [HB0.out]; unfold farsB; rw [g0.out, g1.out, hq]; simp)
              rintro e w5 ⟨rfl, rfl⟩
              clear hq HB0
              go_wp2
              go_ret
              rw [HQ.out]
              exact ⟨rfl, hB4⟩
            | true =>
              have g2 := Lib.hid hq
              clear hq
              rintro e w5 ⟨rfl, rfl⟩
              go_wp2_with fail
              refine (number_ w4 r.ma hfit.ma).mono ?_
              cases hq : farB r.ma with
              | false =>
                have HQ := Lib.hid (show mayB r = false by rw [HB0.out]; unfold farsB; rw [g0.out, g1.out, g2.out, hq]; simp)
                rintro e w5 ⟨rfl, rfl⟩
                clear hq HB0
                go_wp2
                go_ret
                rw [HQ.out]
                exact ⟨rfl, hB4⟩
              | true =>
                have g3 := Lib.hid hq
                clear hq
                rintro e w5 ⟨rfl, rfl⟩
                go_wp2_with fail
                refine (number_ w4 r.off hfit.off).mono ?_
                cases hq : farB r.off with
                | false =>
                  have HQ := Lib.hid (show mayB r = false by rw [HB0.out]; unfold farsB; rw [g0.out, g1.out, g2.out, g3.out, hq]; simp)
                  rintro e w5 ⟨rfl, rfl⟩
                  clear hq HB0
                  go_wp2
                  go_ret
                  rw [HQ.out]
                  exact ⟨rfl, hB4⟩
                | true =>
                  have g4 := Lib.hid hq
                  clear hq
                  rintro e w5 ⟨rfl, rfl⟩
                  go_wp2_with fail
                  refine (number_ w4 r.len hfit.len).mono ?_
                  cases hq : farB r.len with
                  | false =>
                    have HQ := Lib.hid (show mayB r = false by rw [HB0.out]; unfold farsB; rw [g0.out, g1.out, g2.out, g3.out, g4.out, hq]; simp)
                    rintro e w5 ⟨rfl, rfl⟩
                    clear hq HB0
                    go_wp2
                    go_ret
                    rw [HQ.out]
                    exact ⟨rfl, hB4⟩
                  | true =>
                    have g5 := Lib.hid hq
                    clear hq
                    rintro e w5 ⟨rfl, rfl⟩
                    have HQ := Lib.hid (show mayB r = true by rw [HB0.out]; unfold farsB; rw [g0.out, g1.out, g2.out, g3.out, g4.out, g5.out]; rfl)
                    go_wp2
                    go_ret
                    rw [HQ.out]
                    exact ⟨rfl, hB4⟩
    · have HQ := Lib.hid (show mayB r = false by rw [HX.out, ← Hm.out, decide_eq_false (show ¬ m ≤ 64 by omega)]; simp)
      clear HX
      go_wp2_with fail
      go_region
      go_wp2
      go_ret
      rw [HQ.out]
      exact ⟨rfl, hbW⟩
  · have HQ := Lib.hid (show mayB r = false by rw [HX.out, ← Hm.out, decide_eq_false (show ¬ 1 ≤ m by omega)]; rfl)
    clear HX
    go_wp2_with fail
    go_region
    go_wp2
    go_ret
    rw [HQ.out]
    exact ⟨rfl, hbW⟩
end
end Lan
end Go.Proofs.Ytganoklclnbjkaa
