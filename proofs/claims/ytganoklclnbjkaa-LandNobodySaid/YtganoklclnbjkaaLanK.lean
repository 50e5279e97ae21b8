/- Layer 11: Take. -/
import Derived.Test.YtganoklclnbjkaaLanJ
set_option linter.all false
namespace Go.Proofs.Ytganoklclnbjkaa
open Go.RowKit
namespace Lan
open Str (Rec mayB opOf FitR Rdt Rcl ra oa k4 k8 rc_blk)
open Blo (I64 apL apE GotN AnsN)
section
variable (w : World) (b : Nat) (U : Nat → Prop) (s : BS)
set_option maxRecDepth 100000 in
set_option maxHeartbeats 4000000 in
theorem take_ (i : Int) (r : Rec) (X : Option Addr) (m c : Nat) (h : Be w b U s) (hU : ∀ k, w.heap.size ≤ k → U k) (hi : I64 i) (hd : Rdt w r X m c) :
    Calls Try.prog 11 #[.pointer (some ⟨b, 0, none⟩), .int .i64 i, .agg (ra r (.slice X m c))] w fun e w' => e = .returned (.int .i64 (takE s i r)) ∧ Be w' b U (takS s i r) ∧ w.grownBy w' (some b) := by
  obtain ⟨w1, hw1⟩ : ∃ w1, w.alloc (.cells (ra r (.slice X m c)) 29) = w1 := ⟨_, rfl⟩
  have hs1 : w1.heap.size = w.heap.size + 1 := by rw [← hw1]; simp
  have hb1 : Below w.heap.size w w1 := by rw [← hw1]; exact (Below.refl _ _).alloc (Nat.le_refl _) _
  have hr1 : Blk w1 w.heap.size 29 (ra r (.slice X m c)) := by rw [← hw1]; exact Blk.new w _ _ rfl
  obtain ⟨c0, c1, c2, c3, c4, c5, c6, c7⟩ := k8 hr1
  have h1 := h.below hb1
  have hd1 := hd.below hb1
  have hblt := h.lt
  have hg1 := below_grown hb1 (some b)
  by_cases h0 : i < 0
  · have HE := Lib.hid (show takE s i r = 1 by unfold takE; rw [if_pos h0])
    have HS := Lib.hid (show takS s i r = s from takS_no (by rw [HE.out]; decide))
    rw [HE.out, HS.out]
    go_enter Try.func11, Try.ntmps11
    go_wp2_with fail
    refine (given_ w1 b U s h1).mono ?_
    rintro e w' ⟨rfl, rfl⟩
    go_wp2
    go_ret
    exact ⟨rfl, h1, hg1⟩
  · cases hm : mayB r with
    | false =>
      have HE := Lib.hid (show takE s i r = 1 by unfold takE; rw [if_neg h0, if_pos hm])
      have HS := Lib.hid (show takS s i r = s from takS_no (by rw [HE.out]; decide))
      rw [HE.out, HS.out]
      go_enter Try.func11, Try.ntmps11
      go_wp2_with fail
      refine (given_ w1 b U s h1).mono ?_
      rintro e w' ⟨rfl, rfl⟩
      go_wp2_with fail
      refine (Str.may1_ _ r X m c hd1).mono ?_
      rw [hm]
      rintro e w2 ⟨rfl, hb2⟩
      have hB2 := below_step hb1 hb2 (Nat.le_refl _)
      go_wp2
      go_ret
      exact ⟨rfl, h.below hB2, below_grown hB2 _⟩
    | true =>
      by_cases hct : s.c.ct = 0
      · have hcb : ((s.c.ct : Int) == 0) = true := by simp [hct]
        have HE := Lib.hid (show takE s i r = begE s i r by unfold takE; rw [if_neg h0, if_neg (by simp [hm]), if_pos hct])
        have HS := Lib.hid (show takS s i r = if begE s i r = 0 then { s with c := begA s r } else s by unfold takS; rw [HE.out, if_pos hct])
        rw [HE.out]
        go_enter Try.func11, Try.ntmps11
        go_wp2_with fail
        refine (given_ w1 b U s h1).mono ?_
        rintro e w' ⟨rfl, rfl⟩
        go_wp2_with fail
        refine (Str.may1_ _ r X m c hd1).mono ?_
        rw [hm]
        rintro e w2 ⟨rfl, hb2⟩
        have hB2 := below_step hb1 hb2 (Nat.le_refl _)
        have h2 := h.below hB2
        obtain ⟨A0, n0, c0', A1, n1, c1', A2, n2, c2', hX⟩ := id h2
        have d7 := hX.blk.cell (j := 7) (u := .int .i64 (s.c.ct : Int)) rfl
        have hr2 := hr1.keep hb2
        obtain ⟨e0, e1, e2, e3, e4, e5, e6, e7⟩ := k8 hr2
        clear hX c0 c1 c2 c3 c4 c5 c6 c7 hct
        go_wp2_with fail
        refine (begin_ w2 b U s i r X m c h2 (fun k hk => hU k (Nat.le_trans hB2.size hk)) hi hd1.fit.sn).mono ?_
        rintro e w3 ⟨rfl, hR3, hg3⟩
        rw [← HS.out] at hR3
        have hgw := World.grownBy.trans (below_grown hB2 (some b)) hg3
        clear hg3 h2 hr2
        go_wp2
        go_ret
        exact ⟨rfl, hR3, hgw⟩
      · have hcb : ((s.c.ct : Int) == 0) = false := by simp; omega
        have HE := Lib.hid (show takE s i r = proE s i r by unfold takE; rw [if_neg h0, if_neg (by simp [hm]), if_neg hct])
        have HS := Lib.hid (show takS s i r = if proE s i r = 0 then proS s r else s by unfold takS; rw [HE.out, if_neg hct])
        rw [HE.out]
        go_enter Try.func11, Try.ntmps11
        go_wp2_with fail
        refine (given_ w1 b U s h1).mono ?_
        rintro e w' ⟨rfl, rfl⟩
        go_wp2_with fail
        refine (Str.may1_ _ r X m c hd1).mono ?_
        rw [hm]
        rintro e w2 ⟨rfl, hb2⟩
        have hB2 := below_step hb1 hb2 (Nat.le_refl _)
        have h2 := h.below hB2
        obtain ⟨A0, n0, c0', A1, n1, c1', A2, n2, c2', hX⟩ := id h2
        have d7 := hX.blk.cell (j := 7) (u := .int .i64 (s.c.ct : Int)) rfl
        have hr2 := hr1.keep hb2
        obtain ⟨e0, e1, e2, e3, e4, e5, e6, e7⟩ := k8 hr2
        have hct' : 0 < s.c.ct := by omega
        clear hX c0 c1 c2 c3 c4 c5 c6 c7 hct
        go_wp2_with fail
        refine (proceed_ w2 b U s i r X m c h2 (fun k hk => hU k (Nat.le_trans hB2.size hk)) hct' hi (hd1.below hb2) hm).mono ?_
        rintro e w3 ⟨rfl, hR3, hg3⟩
        rw [← HS.out] at hR3
        have hgw := World.grownBy.trans (below_grown hB2 (some b)) hg3
        clear hg3 h2 hr2
        go_wp2
        go_ret
        exact ⟨rfl, hR3, hgw⟩
end
end Lan
end Go.Proofs.Ytganoklclnbjkaa
