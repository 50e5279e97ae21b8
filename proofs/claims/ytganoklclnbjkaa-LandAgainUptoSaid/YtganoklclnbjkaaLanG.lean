/- XLanF, XLanG. -/
import Derived.Test.YtganoklclnbjkaaLanE
set_option linter.all false
namespace Go.Proofs.Ytganoklclnbjkaa
open Go.RowKit
namespace Lan
open Str (Rec mayB opOf FitR Rdt Rcl ra oa k4 k8 rc_blk)
open Blo (I64 apL apE GotN AnsN)
/-- What do answers, and what it makes. -/
def doE (s : BS) (r : Rec) : Int := if doOk s.n s.c r = true then 0 else 5
def doS (s : BS) (r : Rec) : BS := if doOk s.n s.c r = true then { s with c := doA s.c r } else s
section
variable (w : World) (b : Nat) (U : Nat → Prop) (s : BS)
set_option maxRecDepth 100000 in
set_option maxHeartbeats 2000000 in
theorem do_no1 (r : Rec) (X : Option Addr) (m c : Nat) (h : Be w b U s) (hd : Rdt w r X m c) (hm : mayB r = true) (hr : (opOf r).right 1024 = false) :
    Calls Try.prog 38 #[.pointer (some ⟨b, 5, none⟩), .agg (ra r (.slice X m c))] w fun e w' => e = .returned (.int .i64 5) ∧ Be w' b U s ∧ w.grownBy w' (some b) := by
  obtain ⟨w1, hw1⟩ : ∃ w1, w.alloc (.cells (ra r (.slice X m c)) 29) = w1 := ⟨_, rfl⟩
  have hs1 : w1.heap.size = w.heap.size + 1 := by rw [← hw1]; simp
  have hb1 : Below w.heap.size w w1 := by rw [← hw1]; exact (Below.refl _ _).alloc (Nat.le_refl _) _
  have hr1 : Blk w1 w.heap.size 29 (ra r (.slice X m c)) := by rw [← hw1]; exact Blk.new w _ _ rfl
  obtain ⟨c0, c1, c2, c3, c4, c5, c6, c7⟩ := k8 hr1
  have hd1 := hd.below hb1
  clear hd
  go_enter Try.func38, Try.ntmps38
  go_wp2_with fail
  refine (op_no _ r X m c hd1 hm hr).mono ?_
  rintro e w2 ⟨rfl, hb2⟩
  have hB2 := below_step hb1 hb2 (Nat.le_refl _)
  go_wp2_with fail
  go_quiet (fail)
  go_wp2
  go_ret
  have hB3 : Below w.heap.size w (w2.alloc (.cells #[.int .i64 0, .int .i64 0, .int .i64 0, .slice none 0 0] 67)) := hB2.alloc hB2.size _
  exact ⟨rfl, (h.below hB3).drewN _, below_grown (below_drewN hB3 _) _⟩
set_option maxRecDepth 100000 in
set_option maxHeartbeats 2000000 in
theorem do_no2 (r : Rec) (X : Option Addr) (m c : Nat) (h : Be w b U s) (hd : Rdt w r X m c) (hm : mayB r = true) (hr : (opOf r).right 1024 = true) (hen : r.off < (s.c.en : Int)) :
    Calls Try.prog 38 #[.pointer (some ⟨b, 5, none⟩), .agg (ra r (.slice X m c))] w fun e w' => e = .returned (.int .i64 5) ∧ Be w' b U s ∧ w.grownBy w' (some b) := by
  obtain ⟨w1, hw1⟩ : ∃ w1, w.alloc (.cells (ra r (.slice X m c)) 29) = w1 := ⟨_, rfl⟩
  have hs1 : w1.heap.size = w.heap.size + 1 := by rw [← hw1]; simp
  have hb1 : Below w.heap.size w w1 := by rw [← hw1]; exact (Below.refl _ _).alloc (Nat.le_refl _) _
  have hr1 : Blk w1 w.heap.size 29 (ra r (.slice X m c)) := by rw [← hw1]; exact Blk.new w _ _ rfl
  obtain ⟨c0, c1, c2, c3, c4, c5, c6, c7⟩ := k8 hr1
  have hd1 := hd.below hb1
  clear hd
  go_enter Try.func38, Try.ntmps38
  go_wp2_with fail
  refine (op_yes _ r X m c hd1 hm hr).mono ?_
  rintro e w2 ⟨D, cd, rfl, hD, hb2⟩
  have hB2 := below_step hb1 hb2 (Nat.le_refl _)
  have hB3 : Below w.heap.size w (w2.alloc (.cells (oa (opOf r) (.slice D m cd)) 67)) := hB2.alloc hB2.size _
  have h3 := h.below hB3
  obtain ⟨A0, n0, c0', A1, n1, c1', A2, n2, c2', hX⟩ := h3
  have d8 := hX.blk.cell (j := 8) (u := .int .i64 (s.c.en : Int)) rfl
  have hn3 : Blk (w2.alloc (.cells (oa (opOf r) (.slice D m cd)) 67)) w2.heap.size 67 (oa (opOf r) (.slice D m cd)) := Blk.new _ _ _ rfl
  obtain ⟨y0, y1, y2, y3⟩ := k4 hn3
  have hlt : (opOf r).off < (s.c.en : Int) := hen
  clear hX hen
  go_wp2_with fail
  go_quiet (fail)
  go_wp2
  go_ret
  exact ⟨rfl, (h.below hB3).drewN _, below_grown (below_drewN hB3 _) _⟩
end
end Lan
end Go.Proofs.Ytganoklclnbjkaa

set_option linter.all false
namespace Go.Proofs.Ytganoklclnbjkaa
open Go.RowKit
namespace Lan
open Str (Rec mayB opOf FitR Rdt Rcl ra oa k4 k8 rc_blk)
open Blo (I64 apL apE GotN AnsN)
theorem dat_drew {w : World} {o : BOp} {X : Option Addr} {m c : Nat} (h : Blo.Dat w o X m c) : Blo.Dat w.drew o X m c := ⟨h.ns.drew, h.nil, h.le, h.cap, h.by8, h.fit⟩
theorem keep5 {w w' : World} {p0 p1 p2 p3 p4 : Addr} {u0 u1 u2 u3 u4 : Value} (hb : Below w.heap.size w w') (h0 : w.cell? p0 = some u0) (h1 : w.cell? p1 = some u1) (h2 : w.cell? p2 = some u2) (h3 : w.cell? p3 = some u3) (h4 : w.cell? p4 = some u4) :
    w'.cell? p0 = some u0 ∧ w'.cell? p1 = some u1 ∧ w'.cell? p2 = some u2 ∧ w'.cell? p3 = some u3 ∧ w'.cell? p4 = some u4 :=
  ⟨(hb.cell (cell_lt h0)).trans h0, (hb.cell (cell_lt h1)).trans h1, (hb.cell (cell_lt h2)).trans h2, (hb.cell (cell_lt h3)).trans h3, (hb.cell (cell_lt h4)).trans h4⟩
section
variable (w : World) (b : Nat) (U : Nat → Prop) (s : BS)
set_option maxRecDepth 100000 in
set_option maxHeartbeats 2000000 in
theorem do_no3 (r : Rec) (X : Option Addr) (m c : Nat) (h : Be w b U s) (hct : 0 < s.c.ct) (hd : Rdt w r X m c) (hm : mayB r = true) (hr : (opOf r).right 1024 = true) (hen : (s.c.en : Int) ≤ r.off) (hn : (opOf r).right (s.n : Int) = false) :
    Calls Try.prog 38 #[.pointer (some ⟨b, 5, none⟩), .agg (ra r (.slice X m c))] w fun e w' => e = .returned (.int .i64 5) ∧ Be w' b U s ∧ w.grownBy w' (some b) := by
  obtain ⟨w1, hw1⟩ : ∃ w1, w.alloc (.cells (ra r (.slice X m c)) 29) = w1 := ⟨_, rfl⟩
  have hs1 : w1.heap.size = w.heap.size + 1 := by rw [← hw1]; simp
  have hb1 : Below w.heap.size w w1 := by rw [← hw1]; exact (Below.refl _ _).alloc (Nat.le_refl _) _
  have hr1 : Blk w1 w.heap.size 29 (ra r (.slice X m c)) := by rw [← hw1]; exact Blk.new w _ _ rfl
  obtain ⟨c0, c1, c2, c3, c4, c5, c6, c7⟩ := k8 hr1
  have hd1 := hd.below hb1
  have hB0 := h.ok
  have hE : apE s.n [opOf r] = 1 := by
    have : manyB (s.n : Int) = true := by have := hB0.most; simp [manyB]; omega
    unfold apE
    rw [this]
    simp [hn]
  have HE := Lib.hid hE
  have hcl := hB0.okc.len hct
  clear hd hE hn
  go_enter Try.func38, Try.ntmps38
  go_wp2_with fail
  refine (op_yes _ r X m c hd1 hm hr).mono ?_
  rintro e w2 ⟨D, cd, rfl, hD, hb2⟩
  have hB2 := below_step hb1 hb2 (Nat.le_refl _)
  obtain ⟨w3, hw3⟩ : ∃ w3, w2.alloc (.cells (oa (opOf r) (.slice D m cd)) 67) = w3 := ⟨_, rfl⟩
  have hB3 : Below w.heap.size w w3 := by rw [← hw3]; exact hB2.alloc hB2.size _
  have hD3 : Blo.Dat w3 (opOf r) D m cd := by rw [← hw3]; exact Blo.dat_alloc hD _
  have h3 := h.below hB3
  obtain ⟨A0, n0, c0', A1, n1, c1', A2, n2, c2', hX⟩ := h3
  have d6 := hX.blk.cell (j := 6) (u := .slice A1 n1 c1') rfl
  have d8 := hX.blk.cell (j := 8) (u := .int .i64 (s.c.en : Int)) rfl
  have hn3 : Blk w3 w2.heap.size 67 (oa (opOf r) (.slice D m cd)) := by rw [← hw3]; exact Blk.new _ _ _ rfl
  obtain ⟨y0, y1, y2, y3⟩ := k4 hn3
  have hlt : ¬ (opOf r).off < (s.c.en : Int) := by show ¬ r.off < _; omega
  have hv1 := hX.v1
  have hn1 : n1 = s.n := hv1.ns.len.trans hcl
  subst hn1
  have hba : ∀ k, Below w3.heap.size w3 ((w3.drewN k).alloc (.cells (oa (opOf r) (.slice D m cd)) 67)) := fun k => (below_drewN (Below.refl _ _) k).alloc (Nat.le_refl _) _
  have hD4 : ∀ k, Blo.Opl ((w3.drewN k).alloc (.cells (oa (opOf r) (.slice D m cd)) 67)) (some ⟨w3.heap.size, 0, none⟩) 1 [opOf r] := fun k => Blo.os_new1 (w := w3.drewN k) rfl (hD3.below (below_drewN (Below.refl _ _) k))
  have hN4 := fun k => hv1.ns.below (hba k)
  clear hX hen hD hb1 hb2 hB2 hd1 hcl
  go_wp2_with fail
  go_quiet (fail)
  go_wp2_with fail
  go_region_held3 (fun w' => w'.cell? ⟨b, 6, none⟩ = some (.slice A1 s.n c1') ∧ w'.cell? ⟨w2.heap.size, 0, none⟩ = some (.int .i64 (opOf r).kind) ∧ w'.cell? ⟨w2.heap.size, 1, none⟩ = some (.int .i64 (opOf r).off) ∧ w'.cell? ⟨w2.heap.size, 2, none⟩ = some (.int .i64 (opOf r).len) ∧ w'.cell? ⟨w2.heap.size, 3, none⟩ = some (.slice D m cd))
    (first | go_keep | exact ⟨d6, y0, y1, y2, y3⟩ | exact keep5 (below_step (hba _) hb5 (Nat.le_refl _)) d6 y0 y1 y2 y3)
    (first
      | (go_at_call 44; refine (Blo.apply_ _ A1 s.n c1' s.c.vol (hN4 _) hv1.nil hv1.le hv1.cap (some ⟨w3.heap.size, 0, none⟩) 1 1 [opOf r] (hD4 _) (by omega)).mono ?_; rw [HE.out]; rintro e w5 ⟨A5, m5, c5, rfl, hG5, hb5⟩))
  have hB5 : Below w.heap.size w w5 := hB3.trans ((below_step (hba _) hb5 (Nat.le_refl _)).mono hB3.size)
  clear hba hD4 hN4 hG5 hb5
  go_wp2
  go_ret
  exact ⟨rfl, h.below hB5, below_grown hB5 _⟩
set_option maxRecDepth 100000 in
set_option maxHeartbeats 2000000 in
theorem do_yes (r : Rec) (X : Option Addr) (m c : Nat) (h : Be w b U s) (hU : ∀ k, w.heap.size ≤ k → U k) (hct : 0 < s.c.ct) (hd : Rdt w r X m c) (hm : mayB r = true) (hok : doOk s.n s.c r = true) :
    Calls Try.prog 38 #[.pointer (some ⟨b, 5, none⟩), .agg (ra r (.slice X m c))] w fun e w' => e = .returned (.int .i64 0) ∧ Be w' b U { s with c := doA s.c r } ∧ w.grownBy w' (some b) := by
  obtain ⟨w1, hw1⟩ : ∃ w1, w.alloc (.cells (ra r (.slice X m c)) 29) = w1 := ⟨_, rfl⟩
  have hs1 : w1.heap.size = w.heap.size + 1 := by rw [← hw1]; simp
  have hb1 : Below w.heap.size w w1 := by rw [← hw1]; exact (Below.refl _ _).alloc (Nat.le_refl _) _
  have hr1 : Blk w1 w.heap.size 29 (ra r (.slice X m c)) := by rw [← hw1]; exact Blk.new w _ _ rfl
  obtain ⟨c0, c1, c2, c3, c4, c5, c6, c7⟩ := k8 hr1
  have hd1 := hd.below hb1
  have hB0 := h.ok
  have hok' := hok
  unfold doOk at hok'
  rw [Bool.and_eq_true, decide_eq_true_eq] at hok'
  obtain ⟨hn, hen⟩ := hok'
  have hOK := (ok_of_right hn).1
  have hr : (opOf r).right 1024 = true := right_of_ok (hOK.wide (by have := hB0.most; omega)) (by omega) (by omega)
  have hmany : manyB (s.n : Int) = true := by have := hB0.most; simp [manyB]; omega
  have hcl := hB0.okc.len hct
  have hE : apE s.n [opOf r] = 0 := by unfold apE; rw [hmany]; simp [hn]
  have hAlen : (apL s.c.vol [opOf r]).length = s.n := by
    rw [Blo.apL_ok (by rw [hcl]; exact hmany) (by rw [hcl]; simp [hn]), hcl, Blo.vol_length]
  have hAok := doA_ok hB0.okc hB0.most hct hok hOK.some (from_ok hOK) hAlen
  have HA := Lib.hid hAok
  have HL := Lib.hid hAlen
  obtain ⟨r0, r1, r2, _⟩ := Str.right_rng hr
  have hw5 : IntKind.i64.wrap ((opOf r).from_ + (opOf r).cnt) = (((opOf r).from_ + (opOf r).cnt).toNat : Int) := by rw [IntKind.wrap_i64]; omega
  have hw6 : IntKind.i64.wrap ((s.c.ct : Int) + 1) = ((s.c.ct + 1 : Nat) : Int) := by have := hB0.okc.most; have := hB0.okc.en; have := hB0.most; rw [IntKind.wrap_i64]; omega
  clear r0 r1 r2 hmany hAok hAlen hok hn hOK
  have HE := Lib.hid hE
  clear hd hE
  go_enter Try.func38, Try.ntmps38
  go_wp2_with fail
  refine (op_yes _ r X m c hd1 hm hr).mono ?_
  rintro e w2 ⟨D, cd, rfl, hD, hb2⟩
  have hB2 := below_step hb1 hb2 (Nat.le_refl _)
  obtain ⟨w3, hw3⟩ : ∃ w3, w2.alloc (.cells (oa (opOf r) (.slice D m cd)) 67) = w3 := ⟨_, rfl⟩
  have hB3 : Below w.heap.size w w3 := by rw [← hw3]; exact hB2.alloc hB2.size _
  have hD3 : Blo.Dat w3 (opOf r) D m cd := by rw [← hw3]; exact Blo.dat_alloc hD _
  have h3 := h.below hB3
  obtain ⟨A0, n0, c0', A1, n1, c1', A2, n2, c2', hX⟩ := h3
  have d6 := hX.blk.cell (j := 6) (u := .slice A1 n1 c1') rfl
  have d8 := hX.blk.cell (j := 8) (u := .int .i64 (s.c.en : Int)) rfl
  have hn3 : Blk w3 w2.heap.size 67 (oa (opOf r) (.slice D m cd)) := by rw [← hw3]; exact Blk.new _ _ _ rfl
  obtain ⟨y0, y1, y2, y3⟩ := k4 hn3
  have hlt : ¬ (opOf r).off < (s.c.en : Int) := by show ¬ r.off < _; omega
  have hv1 := hX.v1
  have hn1 : n1 = s.n := hv1.ns.len.trans hcl
  subst hn1
  have hba : ∀ k, Below w3.heap.size w3 ((w3.drewN k).alloc (.cells (oa (opOf r) (.slice D m cd)) 67)) := fun k => (below_drewN (Below.refl _ _) k).alloc (Nat.le_refl _) _
  have hD4 : ∀ k, Blo.Opl ((w3.drewN k).alloc (.cells (oa (opOf r) (.slice D m cd)) 67)) (some ⟨w3.heap.size, 0, none⟩) 1 [opOf r] := fun k => Blo.os_new1 (w := w3.drewN k) rfl (hD3.below (below_drewN (Below.refl _ _) k))
  have hN4 := fun k => hv1.ns.below (hba k)
  clear hX hen hD hb1 hb2 hB2 hd1 hcl
  go_wp2_with fail
  go_quiet (fail)
  go_wp2_with fail
  go_region_held3 (fun w' => w'.cell? ⟨b, 6, none⟩ = some (.slice A1 s.n c1') ∧ w'.cell? ⟨w2.heap.size, 0, none⟩ = some (.int .i64 (opOf r).kind) ∧ w'.cell? ⟨w2.heap.size, 1, none⟩ = some (.int .i64 (opOf r).off) ∧ w'.cell? ⟨w2.heap.size, 2, none⟩ = some (.int .i64 (opOf r).len) ∧ w'.cell? ⟨w2.heap.size, 3, none⟩ = some (.slice D m cd))
    (first | go_keep | exact ⟨d6, y0, y1, y2, y3⟩ | exact keep5 (below_step (hba _) hb5 (Nat.le_refl _)) d6 y0 y1 y2 y3)
    (first
      | (go_at_call 44; refine (Blo.apply_ _ A1 s.n c1' s.c.vol (hN4 _) hv1.nil hv1.le hv1.cap (some ⟨w3.heap.size, 0, none⟩) 1 1 [opOf r] (hD4 _) (by omega)).mono ?_; rw [HE.out]; rintro e w5 ⟨A5, m5, c5, rfl, hG5, hb5⟩))
  have hb35 : Below w3.heap.size w3 w5 := below_step (hba _) hb5 (Nat.le_refl _)
  have hB5 : Below w.heap.size w w5 := hB3.trans (hb35.mono hB3.size)
  have hn5 := hn3.keep hb35
  have hD5 := hD3.below hb35
  obtain ⟨z0, z1, z2, z3⟩ := k4 hn5
  clear y0 y1 y2 y3 hn3 hD3
  have hG6 := hG5
  have hbase := (hba (nq + 1)).size
  have hB0s := hB3.size
  clear hba hD4 hN4 hG5 hb5
  go_wp2_with fail
  refine (Blo.range_ _ (opOf r) D m cd hD5).mono ?_
  rintro e w6 ⟨rfl, hb6⟩
  have hG7 := hG6.keep hb6
  have hB6 : Below w.heap.size w w6 := hB5.trans (hb6.mono hB5.size)
  have h6 := h.below hB6
  obtain ⟨B0, q0, g0, B1, q1, g1, B2, q2, g2, hY⟩ := h6
  have f7 := hY.blk.cell (j := 7) (u := .int .i64 (s.c.ct : Int)) rfl
  have f6 := hY.blk.cell (j := 6) (u := .slice B1 q1 g1) rfl
  have f8 := hY.blk.cell (j := 8) (u := .int .i64 (s.c.en : Int)) rfl
  have hz := hY.blk.free
  have hblt := h.lt
  have hbs : w.heap.size ≤ ((w3.drewN (nq + 1)).alloc (Obj.cells (oa (opOf r) (Value.slice D m cd)) 67)).heap.size := Nat.le_trans hB0s hbase
  have hV6 : Vol w6 b U A5 m5 c5 (apL s.c.vol [opOf r]) := Vol.own hG7.own hG7.low (Nat.lt_of_lt_of_le hblt hbs) (fun k hk => hU k (Nat.le_trans hbs hk))
  have hset := ((hY.blk.setCell 6 (.slice A5 m5 c5)).setCell 8 (.int .i64 (((opOf r).from_ + (opOf r).cnt).toNat : Int))).setCell 7 (.int .i64 ((s.c.ct + 1 : Nat) : Int))
  have hgr := World.grownBy.trans (World.grownBy.trans (grown_setCell w6 ⟨b, 6, none⟩ (.slice A5 m5 c5)) (grown_setCell _ ⟨b, 8, none⟩ (.int .i64 (((opOf r).from_ + (opOf r).cnt).toNat : Int)))) (grown_setCell _ ⟨b, 7, none⟩ (.int .i64 ((s.c.ct + 1 : Nat) : Int)))
  have hR : Be _ b U { s with c := doA s.c r } := ⟨_, _, _, _, _, _, _, _, _, hset, hY.v0.grown hgr self_row, hV6.grown hgr self_row, hY.v2.grown hgr self_row, ⟨hB0.most, hB0.len, HA.out, hB0.oky, hB0.sh, hB0.ve, hB0.num⟩⟩
  have hgw := World.grownBy.trans (below_grown hB6 (some b)) hgr
  clear hset hgr hV6 hY hG7 hG6 hB5 hb35 hb6 hblt hbs hbase hB0s hv1 hD5 hn5
  go_wp2
  go_ret
  rw [show max ((opOf r).from_ + (opOf r).cnt) 0 = (((opOf r).from_ + (opOf r).cnt).toNat : Int) by omega, show (s.c.ct : Int) + 1 = ((s.c.ct + 1 : Nat) : Int) by omega]
  exact ⟨rfl, hR, hgw⟩
/-- What a record tells is done to what comes. -/
theorem do_ (r : Rec) (X : Option Addr) (m c : Nat) (h : Be w b U s) (hU : ∀ k, w.heap.size ≤ k → U k) (hct : 0 < s.c.ct) (hd : Rdt w r X m c) (hm : mayB r = true) :
    Calls Try.prog 38 #[.pointer (some ⟨b, 5, none⟩), .agg (ra r (.slice X m c))] w fun e w' => e = .returned (.int .i64 (doE s r)) ∧ Be w' b U (doS s r) ∧ w.grownBy w' (some b) := by
  unfold doE doS
  cases hok : doOk s.n s.c r with
  | true =>
    rw [if_pos rfl, if_pos rfl]
    exact do_yes w b U s r X m c h hU hct hd hm hok
  | false =>
    rw [if_neg (by simp), if_neg (by simp)]
    cases hr : (opOf r).right 1024 with
    | false => exact do_no1 w b U s r X m c h hd hm hr
    | true =>
      by_cases hen : r.off < (s.c.en : Int)
      · exact do_no2 w b U s r X m c h hd hm hr hen
      · cases hn : (opOf r).right (s.n : Int) with
        | false => exact do_no3 w b U s r X m c h hct hd hm hr (by omega) hn
        | true =>
          unfold doOk at hok
          rw [hn, decide_eq_true (show (s.c.en : Int) ≤ r.off by omega)] at hok
          cases hok
end
end Lan
end Go.Proofs.Ytganoklclnbjkaa
