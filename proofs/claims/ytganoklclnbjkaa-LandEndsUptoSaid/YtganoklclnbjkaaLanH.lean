/- Layer 11: proceed: a record of what comes. -/
import Derived.Test.YtganoklclnbjkaaLanG
set_option linter.all false
namespace Go.Proofs.Ytganoklclnbjkaa
open Go.RowKit
namespace Lan
open Str (Rec mayB opOf FitR Rdt Rcl ra oa k4 k8 rc_blk)
open Blo (I64 apL apE GotN AnsN)
theorem rdt_drewN {w : World} {r : Rec} {X : Option Addr} {m c : Nat} (h : Rdt w r X m c) (k : Nat) : Rdt (w.drewN k) r X m c := ⟨h.ns.drewN k, h.nil, h.le, h.cap, h.by8, h.fit⟩
section
variable (w : World) (b : Nat) (U : Nat → Prop) (s : BS)
set_option maxRecDepth 100000 in
set_option maxHeartbeats 2000000 in
theorem proceed_no (i : Int) (r : Rec) (X : Option Addr) (m c : Nat) (h : Be w b U s) (hi : I64 i) (hne : i ≠ (s.c.ct : Int)) :
    Calls Try.prog 26 #[.pointer (some ⟨b, 0, none⟩), .int .i64 i, .agg (ra r (.slice X m c))] w fun e w' => e = .returned (.int .i64 (if i < (s.c.ct : Int) then 10 else 15)) ∧ Be w' b U s ∧ w.grownBy w' (some b) := by
  obtain ⟨w1, hw1⟩ : ∃ w1, w.alloc (.cells (ra r (.slice X m c)) 29) = w1 := ⟨_, rfl⟩
  have hs1 : w1.heap.size = w.heap.size + 1 := by rw [← hw1]; simp
  have hb1 : Below w.heap.size w w1 := by rw [← hw1]; exact (Below.refl _ _).alloc (Nat.le_refl _) _
  have h1 := h.below hb1
  obtain ⟨A0, n0, c0', A1, n1, c1', A2, n2, c2', hX⟩ := h1
  have d7 := hX.blk.cell (j := 7) (u := .int .i64 (s.c.ct : Int)) rfl
  have hR := h.below hb1
  have hg := below_grown hb1 (some b)
  clear hX
  by_cases hlt : i < (s.c.ct : Int)
  · have HV := Lib.hid (show (if i < (s.c.ct : Int) then (10 : Int) else 15) = 10 from if_pos hlt)
    go_enter Try.func26, Try.ntmps26
    go_wp2
    go_ret
    exact ⟨rfl, hR, hg⟩
  · have HV := Lib.hid (show (if i < (s.c.ct : Int) then (10 : Int) else 15) = 15 from if_neg hlt)
    have hgt : (s.c.ct : Int) < i := by omega
    go_enter Try.func26, Try.ntmps26
    go_wp2
    go_ret
    exact ⟨rfl, hR, hg⟩
set_option maxRecDepth 100000 in
set_option maxHeartbeats 2000000 in
theorem proceed_tail (r : Rec) (X : Option Addr) (m c : Nat) (h : Be w b U s) (hct : 0 < s.c.ct) (ht : isTail s r = true) :
    Calls Try.prog 26 #[.pointer (some ⟨b, 0, none⟩), .int .i64 (s.c.ct : Int), .agg (ra r (.slice X m c))] w fun e w' => e = .returned (.int .i64 0) ∧ Be w' b U (landS s) ∧ w.grownBy w' (some b) := by
  obtain ⟨w1, hw1⟩ : ∃ w1, w.alloc (.cells (ra r (.slice X m c)) 29) = w1 := ⟨_, rfl⟩
  have hs1 : w1.heap.size = w.heap.size + 1 := by rw [← hw1]; simp
  have hb1 : Below w.heap.size w w1 := by rw [← hw1]; exact (Below.refl _ _).alloc (Nat.le_refl _) _
  have hr1 : Blk w1 w.heap.size 29 (ra r (.slice X m c)) := by rw [← hw1]; exact Blk.new w _ _ rfl
  obtain ⟨c0, c1, c2, c3, c4, c5, c6, c7⟩ := k8 hr1
  unfold isTail at ht
  rw [Bool.and_eq_true, decide_eq_true_eq, decide_eq_true_eq] at ht
  obtain ⟨hk, hl⟩ := ht
  have hw6 : IntKind.i64.wrap ((s.c.ct : Int) - 1) = (s.c.ct : Int) - 1 := by have := h.ok.okc.most; have := h.ok.okc.en; have := h.ok.most; rw [IntKind.wrap_i64]; omega
  have hbe : (r.len == (s.c.ct : Int) - 1) = true := by simpa using hl
  have hbk : (r.k == 4) = true := by simpa using hk
  have h1 := h.below hb1
  have hok := h.ok
  obtain ⟨A0, n0, c0', A1, n1, c1', A2, n2, c2', hX⟩ := h1
  have d3 := hX.blk.cell (j := 3) (u := .int .i64 s.num) rfl
  have d4 := hX.blk.cell (j := 4) (u := .slice A0 n0 c0') rfl
  have d5 := hX.blk.cell (j := 5) (u := .int .i64 s.c.num) rfl
  have d6 := hX.blk.cell (j := 6) (u := .slice A1 n1 c1') rfl
  have d7 := hX.blk.cell (j := 7) (u := .int .i64 (s.c.ct : Int)) rfl
  have hz := hX.blk.free
  have hOK2 : Ok { s with num := s.c.num, vol := s.c.vol } := ⟨hok.most, hok.okc.len hct, hok.okc, hok.oky, hok.sh, hok.ve, hok.okc.num⟩
  have hR : ∀ k, Be (((w1.drewN k).setCell ⟨b, 3, none⟩ (.int .i64 s.c.num)).setCell ⟨b, 4, none⟩ (.slice A1 n1 c1')) b U { s with num := s.c.num, vol := s.c.vol } := fun k => by
    have hbk := below_drewN (Below.refl w1.heap.size w1) k
    have hgr := World.grownBy.trans (grown_setCell (w1.drewN k) ⟨b, 3, none⟩ (.int .i64 s.c.num)) (grown_setCell _ ⟨b, 4, none⟩ (.slice A1 n1 c1'))
    exact ⟨_, _, _, _, _, _, _, _, _, ((hX.blk.keep hbk).setCell 3 _).setCell 4 _, (hX.v1.below hbk).grown hgr self_row, (hX.v1.below hbk).grown hgr self_row, (hX.v2.below hbk).grown hgr self_row, hOK2⟩
  have hg : ∀ k, w.grownBy (((w1.drewN k).setCell ⟨b, 3, none⟩ (.int .i64 s.c.num)).setCell ⟨b, 4, none⟩ (.slice A1 n1 c1')) (some b) := fun k =>
    World.grownBy.trans (World.grownBy.trans (below_grown (below_drewN hb1 k) (some b)) (grown_setCell (w1.drewN k) ⟨b, 3, none⟩ (.int .i64 s.c.num))) (grown_setCell _ ⟨b, 4, none⟩ (.slice A1 n1 c1'))
  clear hk hl hX hOK2
  go_enter Try.func26, Try.ntmps26
  go_wp2_with fail
  go_quiet (fail)
  go_wp2_with fail
  refine (drop_ _ b U _ (hR nq)).mono ?_
  rintro e w2 ⟨rfl, hR2, hg2⟩
  have hg3 := World.grownBy.trans (hg nq) hg2
  clear hR hg hg2
  go_wp2
  go_ret
  exact ⟨rfl, hR2, hg3⟩
set_option maxRecDepth 100000 in
set_option maxHeartbeats 2000000 in
theorem proceed_do (r : Rec) (X : Option Addr) (m c : Nat) (h : Be w b U s) (hU : ∀ k, w.heap.size ≤ k → U k) (hct : 0 < s.c.ct) (hd : Rdt w r X m c) (hm : mayB r = true) (ht : isTail s r = false) :
    Calls Try.prog 26 #[.pointer (some ⟨b, 0, none⟩), .int .i64 (s.c.ct : Int), .agg (ra r (.slice X m c))] w fun e w' => e = .returned (.int .i64 (doE s r)) ∧ Be w' b U (doS s r) ∧ w.grownBy w' (some b) := by
  obtain ⟨w1, hw1⟩ : ∃ w1, w.alloc (.cells (ra r (.slice X m c)) 29) = w1 := ⟨_, rfl⟩
  have hs1 : w1.heap.size = w.heap.size + 1 := by rw [← hw1]; simp
  have hb1 : Below w.heap.size w w1 := by rw [← hw1]; exact (Below.refl _ _).alloc (Nat.le_refl _) _
  have hr1 : Blk w1 w.heap.size 29 (ra r (.slice X m c)) := by rw [← hw1]; exact Blk.new w _ _ rfl
  obtain ⟨c0, c1, c2, c3, c4, c5, c6, c7⟩ := k8 hr1
  unfold isTail at ht
  have hw6 : IntKind.i64.wrap ((s.c.ct : Int) - 1) = (s.c.ct : Int) - 1 := by have := h.ok.okc.most; have := h.ok.okc.en; have := h.ok.most; rw [IntKind.wrap_i64]; omega
  have h1 := h.below hb1
  have hd1 := hd.below hb1
  have hU1 : ∀ k, w1.heap.size ≤ k → U k := fun k hk => hU k (by omega)
  obtain ⟨A0, n0, c0', A1, n1, c1', A2, n2, c2', hX⟩ := id h1
  have d7 := hX.blk.cell (j := 7) (u := .int .i64 (s.c.ct : Int)) rfl
  have hbw : b < w.heap.size := h.lt
  have hne : some w.heap.size ≠ some b := fun e => by injection e with e; omega
  have hr1k : ∀ k, Blk (w1.drewN k) w.heap.size 29 (ra r (.slice X m c)) := fun k => hr1
  have hgw : ∀ k, w.grownBy (w1.drewN k) (some b) := fun k => below_grown (below_drewN hb1 k) (some b)
  clear hX hd h hU
  have hgo := fun k => do_ (w1.drewN (k + 1)) b U s r X m c (h1.drewN (k + 1)) hU1 hct (rdt_drewN hd1 (k + 1)) hm
  by_cases hk : r.k = 4
  · have hl : ¬ r.len = (s.c.ct : Int) - 1 := fun e => by rw [decide_eq_true hk, decide_eq_true e] at ht; cases ht
    have hbe : (r.len == (s.c.ct : Int) - 1) = false := by simpa using hl
    have hbk : (r.k == 4) = true := by simpa using hk
    clear hk hl ht
    go_enter Try.func26, Try.ntmps26
    go_wp2_with fail
    go_quiet (fail)
    go_wp2_with fail
    go_region_held3 (fun w' => w'.cell? ⟨w.heap.size, 0, none⟩ = some (.int .i64 r.k) ∧ w'.cell? ⟨w.heap.size, 1, none⟩ = some (.int .i64 r.sh) ∧ w'.cell? ⟨w.heap.size, 2, none⟩ = some (.int .i64 r.sn) ∧ w'.cell? ⟨w.heap.size, 3, none⟩ = some (.int .i64 r.ba) ∧ w'.cell? ⟨w.heap.size, 4, none⟩ = some (.int .i64 r.ma) ∧ w'.cell? ⟨w.heap.size, 5, none⟩ = some (.int .i64 r.off) ∧ w'.cell? ⟨w.heap.size, 6, none⟩ = some (.int .i64 r.len) ∧ w'.cell? ⟨w.heap.size, 7, none⟩ = some (.slice X m c))
      (first | go_keep | exact ⟨c0, c1, c2, c3, c4, c5, c6, c7⟩ | exact k8 ((hr1k _).grown hg2 hne))
      (first
        | (go_at_call 38; refine (hgo _).mono ?_; rintro e w2 ⟨rfl, hR2, hg2⟩))
    have hg3 := World.grownBy.trans (hgw _) hg2
    clear hgo hgw hg2 hr1k
    go_wp2
    go_ret
    exact ⟨rfl, hR2, hg3⟩
  · have hbk : (r.k == 4) = false := by simpa using hk
    clear hk ht hw6
    go_enter Try.func26, Try.ntmps26
    go_wp2_with fail
    go_quiet (fail)
    go_wp2_with fail
    go_region_held3 (fun w' => w'.cell? ⟨w.heap.size, 0, none⟩ = some (.int .i64 r.k) ∧ w'.cell? ⟨w.heap.size, 1, none⟩ = some (.int .i64 r.sh) ∧ w'.cell? ⟨w.heap.size, 2, none⟩ = some (.int .i64 r.sn) ∧ w'.cell? ⟨w.heap.size, 3, none⟩ = some (.int .i64 r.ba) ∧ w'.cell? ⟨w.heap.size, 4, none⟩ = some (.int .i64 r.ma) ∧ w'.cell? ⟨w.heap.size, 5, none⟩ = some (.int .i64 r.off) ∧ w'.cell? ⟨w.heap.size, 6, none⟩ = some (.int .i64 r.len) ∧ w'.cell? ⟨w.heap.size, 7, none⟩ = some (.slice X m c))
      (first | go_keep | exact ⟨c0, c1, c2, c3, c4, c5, c6, c7⟩ | exact k8 ((hr1k _).grown hg2 hne))
      (first
        | (go_at_call 38; refine (hgo _).mono ?_; rintro e w2 ⟨rfl, hR2, hg2⟩))
    have hg3 := World.grownBy.trans (hgw _) hg2
    clear hgo hgw hg2 hr1k
    go_wp2
    go_ret
    exact ⟨rfl, hR2, hg3⟩
/-- A record of what comes. -/
theorem proceed_ (i : Int) (r : Rec) (X : Option Addr) (m c : Nat) (h : Be w b U s) (hU : ∀ k, w.heap.size ≤ k → U k) (hct : 0 < s.c.ct) (hi : I64 i) (hd : Rdt w r X m c) (hm : mayB r = true) :
    Calls Try.prog 26 #[.pointer (some ⟨b, 0, none⟩), .int .i64 i, .agg (ra r (.slice X m c))] w fun e w' => e = .returned (.int .i64 (proE s i r)) ∧ Be w' b U (if proE s i r = 0 then proS s r else s) ∧ w.grownBy w' (some b) := by
  by_cases hne : i = (s.c.ct : Int)
  · subst hne
    have e0 : proE s (s.c.ct : Int) r = if isTail s r = true then 0 else doE s r := by unfold proE doE; rw [if_neg (Int.lt_irrefl _), if_neg (Int.lt_irrefl _)]
    cases ht : isTail s r with
    | true =>
      rw [e0, ht, if_pos rfl, if_pos rfl, show proS s r = landS s by unfold proS; rw [ht]; rfl]
      exact proceed_tail w b U s r X m c h hct ht
    | false =>
      have e1 : (if doE s r = 0 then proS s r else s) = doS s r := by
        unfold doE doS proS
        rw [ht]
        cases doOk s.n s.c r <;> simp
      rw [e0, ht, if_neg (by simp), e1]
      exact proceed_do w b U s r X m c h hU hct hd hm ht
  · have e0 : proE s i r = if i < (s.c.ct : Int) then 10 else 15 := by
      unfold proE
      by_cases h1 : i < (s.c.ct : Int)
      · rw [if_pos h1, if_pos h1]
      · rw [if_neg h1, if_neg h1, if_pos (by omega)]
    have e1 : proE s i r ≠ 0 := by rw [e0]; split <;> decide
    rw [if_neg e1, e0]
    exact proceed_no w b U s i r X m c h hi hne
end
end Lan
end Go.Proofs.Ytganoklclnbjkaa
