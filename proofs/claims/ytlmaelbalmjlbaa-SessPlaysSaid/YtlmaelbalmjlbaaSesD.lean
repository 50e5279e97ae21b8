/- Layer 16: Begin, message, formed, refuse. -/
import Derived.Test.YtlmaelbalmjlbaaSesC
import Derived.Test.YtlmaelbalmjlbaaNetF
set_option linter.all false
namespace Go.Proofs.Ytlmaelbalmjlbaa
open Go.RowKit
namespace Ses
open Net
theorem blk_drew {w : World} {b : Nat} {t : TypeId} {cs : Array Value} (h : Blk w b t cs) : Blk w.drew b t cs := h
theorem below_drew {B : Nat} {a w : World} (h : Below B a w) : Below B a w.drew := ⟨h.os, h.tape, h.output, h.size, h.block⟩
theorem fu_set {S : Nat → Prop} {a w : World} (h : Fu S a w) (b j : Nat) (u : Value) (hs : S b) : Fu S a (w.setCell ⟨b, j, none⟩ u) := h.step (grown_setCell w ⟨b, j, none⟩ u) (fun k q => by injection q with q; exact .inl (q ▸ hs))
theorem results_m1 {fn : Func} {W : World} {q k : Nat} {a b c d e f g : Value} {tmps : Array Value} (hr : fn.results = #[.cell k 36]) (h2 : tmps.getD k undef = .pointer (some ⟨q, 0, none⟩)) (hb : Blk W q 36 #[a, b, c, d, e, f, g]) :
    (results fn tmps).run Try.prog W = .ok (.agg #[a, b, c, d, e, f, g]) W := by
  have d0 := hb.cell (j := 0) rfl
  have d1 := hb.cell (j := 1) rfl
  have d2 := hb.cell (j := 2) rfl
  have d3 := hb.cell (j := 3) rfl
  have d4 := hb.cell (j := 4) rfl
  have d5 := hb.cell (j := 5) rfl
  have d6 := hb.cell (j := 6) rfl
  have h2' : tmps[k]?.getD undef = .pointer (some ⟨q, 0, none⟩) := by simpa using h2
  simp [results, hr, h2', go_sem, d0, d1, d2, d3, d4, d5, d6]
theorem sets8 {w : World} {b : Nat} {T : TypeId} {x0 x1 x2 x3 x4 x5 x6 x7 : Value} (h : Blk w b T #[x0, x1, x2, x3, x4, x5, x6, x7]) (u0 u1 u2 u3 u4 u5 u6 u7 : Value) :
    Blk ((((((((w.setCell ⟨b, 0, none⟩ u0).setCell ⟨b, 1, none⟩ u1).setCell ⟨b, 2, none⟩ u2).setCell ⟨b, 3, none⟩ u3).setCell ⟨b, 4, none⟩ u4).setCell ⟨b, 5, none⟩ u5).setCell ⟨b, 6, none⟩ u6).setCell ⟨b, 7, none⟩ u7) b T #[u0, u1, u2, u3, u4, u5, u6, u7] := by
  have := (((((((h.setCell 0 u0).setCell 1 u1).setCell 2 u2).setCell 3 u3).setCell 4 u4).setCell 5 u5).setCell 6 u6).setCell 7 u7
  simpa using this
theorem fu8 (w : World) (b : Nat) (u0 u1 u2 u3 u4 u5 u6 u7 : Value) :
    Fu (fun k => k = b) w ((((((((w.setCell ⟨b, 0, none⟩ u0).setCell ⟨b, 1, none⟩ u1).setCell ⟨b, 2, none⟩ u2).setCell ⟨b, 3, none⟩ u3).setCell ⟨b, 4, none⟩ u4).setCell ⟨b, 5, none⟩ u5).setCell ⟨b, 6, none⟩ u6).setCell ⟨b, 7, none⟩ u7) :=
  fu_set (fu_set (fu_set (fu_set (fu_set (fu_set (fu_set (fu_set (Fu.refl (fun k => k = b) w) b 0 u0 rfl) b 1 u1 rfl) b 2 u2 rfl) b 3 u3 rfl) b 4 u4 rfl) b 5 u5 rfl) b 6 u6 rfl) b 7 u7 rfl
section
variable (w : World)
set_option maxRecDepth 100000 in
set_option maxHeartbeats 2000000 in
theorem begin_ (b : Nat) (U : Nat → Prop) (e : En) (h : Ed w b U e) (ep : Int) :
    Calls Try.prog 20 #[.pointer (some ⟨b, 0, none⟩), .int .i64 ep] w fun r w' => r = .returned (.int .i64 (begE e ep)) ∧ Ed w' b U (begS e ep) ∧ Fu (fun k => k = b) w w' := by
  have H0 := Lib.hid h
  obtain ⟨A, n, L, h⟩ := h
  have hG := given_ w b e A n h.blk
  have H := Lib.hid h
  have hbk := h.blk
  obtain ⟨_, c1, c2, c3, _, _, _, _⟩ := ea_cells h.blk
  have f0 := h.blk.free 0
  have f1 := h.blk.free 1
  have f2 := h.blk.free 2
  have f3 := h.blk.free 3
  have f4 := h.blk.free 4
  have f5 := h.blk.free 5
  have f6 := h.blk.free 6
  have f7 := h.blk.free 7
  have d0 := h.blk.cell (j := 0) (u := .bool true) rfl
  have d4 := h.blk.cell (j := 4) (u := .int .i64 (e.a : Int)) rfl
  have d5 := h.blk.cell (j := 5) (u := .slice A n n) rfl
  have d6 := h.blk.cell (j := 6) (u := .int .i64 (e.c : Int)) rfl
  have d7 := h.blk.cell (j := 7) (u := .bool e.o) rfl
  clear h
  by_cases h1 : ep ≤ e.ep
  · have HE := Lib.hid (show begE e ep = 1 by unfold begE; rw [if_pos (.inl h1)])
    go_enter Try.func20, Try.ntmps20
    go_wp2_with fail
    refine hG.mono ?_
    rintro r w' ⟨rfl, rfl⟩
    go_wp2
    go_ret
    rw [show begS e ep = e by unfold begS; rw [HE.out]; rfl, HE.out]
    exact ⟨rfl, H0.out, Fu.refl _ _⟩
  · by_cases h2 : 2147483648 < ep
    · have HE := Lib.hid (show begE e ep = 1 by unfold begE; rw [if_pos (.inr h2)])
      go_enter Try.func20, Try.ntmps20
      go_wp2_with fail
      refine hG.mono ?_
      rintro r w' ⟨rfl, rfl⟩
      go_wp2
      go_ret
      rw [show begS e ep = e by unfold begS; rw [HE.out]; rfl, HE.out]
      exact ⟨rfl, H0.out, Fu.refl _ _⟩
    · have HE := Lib.hid (show begE e ep = 0 by unfold begE; rw [if_neg (by omega)])
      have HS := Lib.hid (show begS e ep = newS e.n e.p ep by unfold begS; rw [if_pos HE.out])
      have HK := Lib.hid (show nodeP e.n e.p ep by obtain ⟨a1, a2, a3, a4, a5, a6, a7⟩ := H.out.ok; exact ⟨a1, a2, a3, a4, a5, by omega, by omega⟩)
      go_enter Try.func20, Try.ntmps20
      go_wp2_with fail
      refine hG.mono ?_
      rintro r w' ⟨rfl, rfl⟩
      go_wp2_with fail
      go_region
      all_goals (
        go_wp2
        go_ret
        rw [HE.out, HS.out]
        have hk := sets8 hbk (.bool true) (.int .i64 e.n) (.int .i64 e.p) (.int .i64 ep) (.int .i64 0) (.slice none 0 0) (.int .i64 0) (.bool false)
        have hf := fu8 w b (.bool true) (.int .i64 e.n) (.int .i64 e.p) (.int .i64 ep) (.int .i64 0) (.slice none 0 0) (.int .i64 0) (.bool false)
        exact ⟨rfl, ⟨none, 0, [], blk_drew hk, lq_none, rfl, Nat.le_refl _, Nat.zero_le _, H.out.out, HK.out⟩, hf.drew⟩)
set_option maxRecDepth 100000 in
set_option maxHeartbeats 4000000 in
theorem message_ (b : Nat) (e : En) (A : Option Addr) (n : Nat) (h : Blk w b 75 (ea e A n)) (k : Int) :
    Calls Try.prog 35 #[.pointer (some ⟨b, 0, none⟩), .int .i64 k] w fun r w' => r = .returned (.agg (ma ⟨e.n, e.p, k, e.ep, 0, e.c, []⟩ (.slice none 0 0))) ∧ Below w.heap.size w w' := by
  have hbl := h.lt
  have hres := Blk.new w 36 ma0 rfl
  obtain ⟨w1, hw1⟩ : ∃ w1, w.alloc (.cells ma0 36) = w1 := ⟨_, rfl⟩
  have hs1 : w1.heap.size = w.heap.size + 1 := by rw [← hw1]; simp
  have hb1 : Below w.heap.size w w1 := by rw [← hw1]; exact (Below.refl _ _).alloc (Nat.le_refl _) _
  rw [hw1] at hres
  have hk1 := h.keep hb1
  obtain ⟨_, c1, c2, c3, _, _, c6, _⟩ := ea_cells hk1
  obtain ⟨r0, r1, r2, r3, r4, r5, r6⟩ := ma_blk (m := zM) hres
  have g0 := hres.free 0
  have g1 := hres.free 1
  have g2 := hres.free 2
  have g3 := hres.free 3
  have g4 := hres.free 4
  have g5 := hres.free 5
  have g6 := hres.free 6
  clear h
  go_enter Try.func35, Try.ntmps35
  go_wp2_with fail
  go_region
  all_goals (
    go_wp2
    refine bodyPost_ret (results_m1 rfl rfl (blk_drew (ma_set (m := zM) hres e.n e.p k e.ep 0 e.c (.slice none 0 0)))) rfl ?_
    exact ⟨rfl, below_drew (hb1.grown (sets_grown _ _ _ _ _ _ _ _ _) hb1.size (fun k hk => by injection hk with hk; omega))⟩)
set_option maxRecDepth 100000 in
set_option maxHeartbeats 4000000 in
theorem formed_ (m : Ms) (X : Option Addr) (n c : Nat) (h : Mdt w m X n c) :
    Calls Try.prog 46 #[.agg (ma m (.slice X n c))] w fun r w' => r = .returned (.bool (if m.k = 2 then decide (m.sq = 0 ∧ m.d.length = 0) else decide (1 ≤ m.sq ∧ m.d.length ≤ 1200))) ∧ Below w.heap.size w w' := by
  have Hm := Lib.hid h.len
  have hac := Blk.new w 36 (ma m (.slice X n c)) rfl
  obtain ⟨w1, hw1⟩ : ∃ w1, w.alloc (.cells (ma m (.slice X n c)) 36) = w1 := ⟨_, rfl⟩
  have hb1 : Below w.heap.size w w1 := by rw [← hw1]; exact (Below.refl _ _).alloc (Nat.le_refl _) _
  rw [hw1] at hac
  obtain ⟨_, _, d2, _, d4, _, d6⟩ := ma_blk hac
  clear h
  rw [← Hm.out]
  by_cases h2 : m.k = 2
  · rw [if_pos h2]
    have t2 : (m.k == 2) = true := by simpa using h2
    have H2 := Lib.hid h2
    clear h2
    by_cases h3 : m.sq = 0
    · have t3 : (m.sq == 0) = true := by simpa using h3
      have H3 := Lib.hid h3
      clear h3
      go_enter Try.func46, Try.ntmps46
      go_wp2
      go_ret
      rw [H3.out]
      refine ⟨?_, hb1⟩
      by_cases hn : n = 0
      · subst hn; rfl
      · simp [hn]
    · have t3 : (m.sq == 0) = false := by simpa using h3
      go_enter Try.func46, Try.ntmps46
      go_wp2
      go_ret
      exact ⟨by simp [h3], hb1⟩
  · rw [if_neg h2]
    have t2 : (m.k == 2) = false := by simpa using h2
    by_cases h3 : 1 ≤ m.sq
    · by_cases h4 : (n : Int) ≤ 1200
      · go_enter Try.func46, Try.ntmps46
        go_wp2
        go_ret
        exact ⟨by simp [h3, h4]; omega, hb1⟩
      · go_enter Try.func46, Try.ntmps46
        go_wp2
        go_ret
        exact ⟨by simp [h3, h4]; omega, hb1⟩
    · go_enter Try.func46, Try.ntmps46
      go_wp2
      go_ret
      exact ⟨by simp [h3]; omega, hb1⟩
end
end Ses
end Go.Proofs.Ytlmaelbalmjlbaa
