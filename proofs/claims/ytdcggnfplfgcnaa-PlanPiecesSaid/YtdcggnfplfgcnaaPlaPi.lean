/- Proves PlanPieces of layer 14 (plan), for every input, with no condition: each part lies in one piece, in order, and names its node. Printed by wip/tools/genplapi.py. -/
import Derived.Test.YtdcggnfplfgcnaaPlaW
import Derived.Deep.RegionHeld3
set_option linter.all false
namespace Go.Proofs.Ytdcggnfplfgcnaa
open Go.ChangeShapes Go.WideShapes Go.ChangeAt Go.RowKit
namespace Pla
open Blo (I64 Dat Sml FitB Opl GotN AnsN OpV opShp toOp)
open Sma (Pc Mp Mr mv runB)

theorem enters_N (vs : Array Value) (w : World) : (callFunc 31 vs).run Try.prog w = .ok (.enter 31 vs) w := by go_simp
theorem ops_zero {m : Mp} {o : BOp} (h : opsE m o = 0) : m.right = true ∧ o.right m.n = true := by
  unfold opsE at h
  split at h
  · rename_i h1
    split at h
    · rename_i h2
      exact ⟨h1, h2⟩
    · cases h
  · cases h
theorem node_of {m : Mp} (hr : m.right = true) {j : Nat} {p : Pc} (h : m.ps[j]? = some p) {a : Int} (h0 : p.fr ≤ a) (h1 : a < p.en) : Sma.nodeL a m.ps = p.nd := by
  have e : m.ps = m.ps.take j ++ p :: m.ps.drop (j + 1) := by rw [← Sma.drop_of h, List.take_append_drop]
  have hrun := (Sma.right_is hr).2.2.2
  rw [e] at hrun
  obtain ⟨x, h2, h3⟩ := Sma.run_app.1 hrun
  obtain ⟨e1, e2, e3, e4⟩ := Sma.run_cons.1 h3
  exact Sma.At.node (a := a) (pre := m.ps.take j) (post := m.ps.drop (j + 1)) ⟨e, by rw [e1]; exact h2, h0, h1, e3, e4⟩
/-- What is told of one part of an op by a map. -/
structure InP (m : Mp) (q : Pt) (kk : Nat) (p : Pc) : Prop where
  get : m.ps[kk]? = some p
  pc : q.pc = (kk : Int)
  nd : q.nd = p.nd
  lo : p.fr ≤ q.op.off
  hi : q.op.off + q.op.cnt ≤ p.en
  ok : q.op.Ok m.n
  node : Sma.nodeL q.op.off m.ps = p.nd
theorem in_part {m : Mp} {o : BOp} (hr : m.right = true) (ho : o.right m.n = true) {q : Pt} (hq : q ∈ opsL m o) : ∃ kk p, InP m q kk p := by
  rw [opsL_ok hr ho] at hq
  obtain ⟨hok, hN0, hN1⟩ := ok_of_right ho
  obtain ⟨kk, p, h1, h2, h3, h4, h5⟩ := parts_mem o o.cnt hq
  have hc : q.op.cnt = min p.en (o.off + o.cnt) - max p.fr o.off := by rw [h4]; exact cut_cnt hok (by omega) (by omega) h5
  have hf : q.op.off = max p.fr o.off := by rw [h4]; exact cut_off _ _ _
  refine ⟨kk, p, h1, by rw [h2]; simp, h3, by omega, by omega, (part_ok hok hq).1, node_of hr h1 (by omega) (by omega)⟩
theorem ops_rise {m : Mp} {o : BOp} (hr : m.right = true) (ho : o.right m.n = true) {i : Nat} {a b : Pt} (ha : (opsL m o)[i]? = some a) (hb : (opsL m o)[i + 1]? = some b) : a.pc < b.pc := by
  rw [opsL_ok hr ho] at ha hb
  have h := List.pairwise_iff_getElem.1 (parts_rise o o.cnt m.ps 0)
  obtain ⟨h1, rfl⟩ := List.getElem?_eq_some_iff.1 ha
  obtain ⟨h2, rfl⟩ := List.getElem?_eq_some_iff.1 hb
  exact h i (i + 1) h1 h2 (by omega)
section
variable (w : World)
set_option maxRecDepth 100000 in
set_option maxHeartbeats 8000000 in
theorem pieces_walk (m : Mp) (A : Option Addr) (k c : Nat) (h : Mr w m A k c) (o : BOp) (X : Option Addr) (mm cc : Nat) (hd : Dat w o X mm cc) :
    Calls Try.prog 7 #[mv m A k c, oa o (.slice X mm cc)] w fun e w' => e = .returned (.bool true) ∧ Below w.heap.size w w' := by
  have hb1 := (Below.refl w.heap.size w).alloc (Nat.le_refl _) (rmo m A k c)
  have hb2 : Below w.heap.size w ((w.alloc (rmo m A k c)).alloc (oo o (.slice X mm cc))) := hb1.alloc (by simp) _
  have hm2 := (h.alloc (rmo m A k c)).alloc (oo o (.slice X mm cc))
  have hd2 := dat_alloc (dat_alloc hd (rmo m A k c)) (oo o (.slice X mm cc))
  have k1 : Blk ((w.alloc (rmo m A k c)).alloc (oo o (.slice X mm cc))) w.heap.size 24 #[.int .i64 m.v, .int .i64 m.n, .slice A k c] := (Blk.new w _ _ rfl).alloc _
  have k2 : Blk ((w.alloc (rmo m A k c)).alloc (oo o (.slice X mm cc))) (w.heap.size + 1) 27 #[.int .i64 o.kind, .int .i64 o.off, .int .i64 o.len, .slice X mm cc] := Blk.new _ _ _ (by simp)
  have hS : ∀ w', Below ((w.alloc (rmo m A k c)).alloc (oo o (.slice X mm cc))).heap.size ((w.alloc (rmo m A k c)).alloc (oo o (.slice X mm cc))) w' → w'.cell? ⟨w.heap.size, 0, none⟩ = some (.int .i64 m.v) ∧ w'.cell? ⟨w.heap.size, 1, none⟩ = some (.int .i64 m.n) ∧ w'.cell? ⟨w.heap.size, 2, none⟩ = some (.slice A k c) ∧ w'.cell? ⟨w.heap.size + 1, 0, none⟩ = some (.int .i64 o.kind) ∧ w'.cell? ⟨w.heap.size + 1, 1, none⟩ = some (.int .i64 o.off) ∧ w'.cell? ⟨w.heap.size + 1, 2, none⟩ = some (.int .i64 o.len) ∧ w'.cell? ⟨w.heap.size + 1, 3, none⟩ = some (.slice X mm cc) := fun w' hb => ⟨(k1.keep hb).cell rfl, (k1.keep hb).cell rfl, (k1.keep hb).cell rfl, (k2.keep hb).cell rfl, (k2.keep hb).cell rfl, (k2.keep hb).cell rfl, (k2.keep hb).cell rfl⟩
  have HSS := Lib.hid hS
  obtain ⟨E, hE⟩ : ∃ E, opsE m o = E := ⟨_, rfl⟩
  have HE := Lib.hid hE
  have S0 := hS _ (Below.refl _ _)
  clear h hd hb1 k1 k2 hE hS
  go_enter Try.func7, Try.ntmps7
  go_wp2_with fail
  generalize ((w.alloc (rmo m A k c)).alloc (oo o (.slice X mm cc))) = w1 at *
  go_region_held3 (fun w' => w'.cell? ⟨w.heap.size, 0, none⟩ = some (.int .i64 m.v) ∧ w'.cell? ⟨w.heap.size, 1, none⟩ = some (.int .i64 m.n) ∧ w'.cell? ⟨w.heap.size, 2, none⟩ = some (.slice A k c) ∧ w'.cell? ⟨w.heap.size + 1, 0, none⟩ = some (.int .i64 o.kind) ∧ w'.cell? ⟨w.heap.size + 1, 1, none⟩ = some (.int .i64 o.off) ∧ w'.cell? ⟨w.heap.size + 1, 2, none⟩ = some (.int .i64 o.len) ∧ w'.cell? ⟨w.heap.size + 1, 3, none⟩ = some (.slice X mm cc)) (first | exact S0 | exact S2 | exact S3 | go_keep)
    (first
      | (go_at_call 11
         refine (theirs_ _ m A k c).mono ?_
         rintro e w2 ⟨rfl, hc2⟩
         have hbA : Below w1.heap.size w1 w2 := below_undrew hc2
         have S2 := HSS.out w2 hbA
         have hmA := hm2.below hbA
         have hdA := hd2.below hbA)
      | (go_at_call 10
         refine (ops_ _ m A k c hmA o X mm cc hdA).mono ?_
         rw [HE.out]
         rintro e w3 ⟨A3, n3, c3, L, rfl, hG3, hL3, hc3⟩
         have HL3 := Lib.hid hL3
         have hbB : Below w1.heap.size w1 w3 := below_step hbA hc3 (Nat.le_refl _)
         have S3 := HSS.out w3 hbB))
  clear S0 S2 hmA hdA hL3 S3 hc3 hbA
  have hp := hG3.ptl
  have hB3 := below_step hb2 hbB (Nat.le_refl _)
  have hm3 := hm2.below hbB
  have HS3 := Lib.hid (fun w' (hb : Below w3.heap.size w3 w') => show w'.cell? ⟨w.heap.size, 0, none⟩ = some (.int .i64 m.v) ∧ w'.cell? ⟨w.heap.size, 1, none⟩ = some (.int .i64 m.n) ∧ w'.cell? ⟨w.heap.size, 2, none⟩ = some (.slice A k c) from by
    obtain ⟨s0, s1, s2, -⟩ := HSS.out w' (below_step hbB hb (Nat.le_refl _))
    exact ⟨s0, s1, s2⟩)
  clear hm2 hd2 hb2 hbB HSS hG3
  by_cases hE0 : E = 0
  · subst hE0
    obtain ⟨hr, ho⟩ := ops_zero HE.out
    have hN1 := (Sma.right_is hr).2.1
    have h16 : (opsL m o).length ≤ 16 := by rw [opsL_ok hr ho]; exact Nat.le_trans (parts_len _ _ _ _) (right_nd hr).1
    have hln : n3 = (opsL m o).length := by rw [← HL3.out, List.length_map]; exact hp.len
    have hn3 : n3 ≤ 16 := by omega
    have hkl := hm3.len
    have hk16 : k ≤ 16 := by rw [hkl]; exact (right_nd hr).1
    have Hkl := Lib.hid hkl
    have HIn := Lib.hid (fun (q : Pt) (hq : q ∈ opsL m o) => in_part hr ho hq)
    have HRi := Lib.hid (fun (i : Nat) (a b : Pt) (ha : (opsL m o)[i]? = some a) (hb : (opsL m o)[i + 1]? = some b) => ops_rise hr ho ha hb)
    clear h16 hln hkl
    go_wp2_with fail
    generalize w.heap.size = gm at HS3
    go_loopw [23] (fun iv wr => ∃ j : Nat, j ≤ n3 ∧ iv = .int .i64 (j : Int) ∧ Below w3.heap.size w3 wr) (fun iv _ => n3 - (intOf iv).toNat)
    case atStart => exact ⟨0, Nat.zero_le _, rfl, Below.refl _ _⟩
    case round =>
      obtain ⟨j, hj, rfl, hb⟩ := hrel
      by_cases hlt : j < n3
      · have hjl : (j : Int) < (n3 : Int) := by omega
        have hj0 : (0 : Int) ≤ (j : Int) := by omega
        obtain ⟨b3, o3, q, Xq, qm, qc, rfl, hx, -, -, dq, c0, c1, c2, c3', c4, c5⟩ := (hp.below hb).at_ hlt
        have hq : (opsL m o)[j]? = some q := by rw [← HL3.out, List.getElem?_map, hx]; rfl
        obtain ⟨kk, p, hI⟩ := HIn.out q (List.mem_of_getElem? hq)
        have hkk : kk < k := by rw [Hkl.out]; exact (List.getElem?_eq_some_iff.1 hI.get).1
        obtain ⟨b, u, rfl, p', hx', -, p0, p1, p2⟩ := (hm3.below hb).ps.at_ hkk
        have hpp : p = p' := by have := hI.get; rw [hx'] at this; injection this with this; exact this.symm
        subst hpp
        have hba : Below wr.heap.size wr (wr.alloc (pto q (.slice Xq qm qc) 67)) := (Below.refl _ _).alloc (Nat.le_refl _) _
        have kc : Blk (wr.alloc (pto q (.slice Xq qm qc) 67)) wr.heap.size 67 #[.int .i64 q.pc, .int .i64 q.nd, .int .i64 q.op.kind, .int .i64 q.op.off, .int .i64 q.op.len, .slice Xq qm qc] := Blk.new wr _ _ rfl
        have dqa := dq.below hba
        have hBa := below_step hb hba (Nat.le_refl _)
        have HFr := Lib.hid (from_ok hI.ok)
        clear dq
        go_wp2_with fail
        refine (Blo.rrange_ _ q.op Xq qm qc dqa).mono ?_
        rw [HFr.out]
        rintro e w5 ⟨rfl, hc5⟩
        have hB5 := below_step hBa hc5 (Nat.le_refl _)
        have hb5 := below_step hba hc5 (Nat.le_refl _)
        have kc5 := kc.keep hc5
        have hm5 := hm3.below hB5
        have HI := Lib.hid hI
        have hf0 := hI.ok.low
        have hfN : q.op.off < m.n := by have h1 := hI.ok.some; have h2 := hI.ok.high; omega
        have hlo := hI.lo
        have hhi := hI.hi
        have hsm := hI.ok.some
        have hen : p.en ≤ m.n := by
          have := Sma.run_mem (Sma.right_is hr).2.2.2 p (List.mem_of_getElem? hI.get)
          omega
        have HN := Lib.hid hI.node
        have e0 : w5.cell? ⟨wr.heap.size, 0, none⟩ = some (.int .i64 (kk : Int)) := by rw [← hI.pc]; exact kc5.cell (j := 0) rfl
        have e1 : w5.cell? ⟨wr.heap.size, 1, none⟩ = some (.int .i64 p.nd) := by rw [← hI.nd]; exact kc5.cell (j := 1) rfl
        obtain ⟨s0, s1, s2⟩ := HS3.out w5 hB5
        have r0 := (hb5.cell (cell_lt p0)).trans p0
        have r1 := (hb5.cell (cell_lt p1)).trans p1
        have G5 := Lib.hid (fun (x : Addr) (y : Value) (h : wr.cell? x = some y) => (hb5.cell (cell_lt h)).trans h)
        generalize q.op.off = f at *
        generalize q.op.cnt = n at *
        generalize wr.heap.size = gc at *
        have hkk0 : (0 : Int) ≤ (kk : Int) := by omega
        have hkkl : (kk : Int) < (k : Int) := by omega
        have f1 : decide ((kk : Int) < 0) = false := decide_eq_false (by omega)
        have f1' : ¬ (kk : Int) < 0 := by omega
        have f2 : ¬ (k : Int) ≤ (kk : Int) := by omega
        have f2' : ¬ k ≤ kk := by omega
        have f2d : decide (k ≤ kk) = false := decide_eq_false f2'
        have f3 : ¬ n < 1 := by omega
        have f4 : ¬ f < p.fr := by omega
        have hw5 : IntKind.i64.wrap (f + n) = f + n := by rw [IntKind.wrap_i64]; omega
        have f5 : ¬ p.en < f + n := by omega
        have hfn : f < m.n := hfN
        have f3d : decide (n < 1) = false := decide_eq_false f3
        have f4d : decide (f < p.fr) = false := decide_eq_false f4
        have f5d : decide (p.en < f + n) = false := decide_eq_false f5
        by_cases hj1 : j = 0
        · subst hj1
          have HS := Lib.hid (fun w' (hb : Below w5.heap.size w5 w') => show w'.cell? ⟨gc, 0, none⟩ = some (.int .i64 (kk : Int)) ∧ w'.cell? ⟨gc, 1, none⟩ = some (.int .i64 p.nd) ∧ w'.cell? ⟨gm, 0, none⟩ = some (.int .i64 m.v) ∧ w'.cell? ⟨gm, 1, none⟩ = some (.int .i64 m.n) ∧ w'.cell? ⟨gm, 2, none⟩ = some (.slice (some ⟨b, u, none⟩) k c) ∧ w'.cell? ⟨b, u + kk * 3, none⟩ = some (.int .i64 p.fr) ∧ w'.cell? ⟨b, u + kk * 3 + 1, none⟩ = some (.int .i64 p.en) from by
            have g : ∀ {x : Addr} {y : Value}, w5.cell? x = some y → w'.cell? x = some y := fun h => (hb.cell (cell_lt h)).trans h
            exact ⟨g e0, g e1, g s0, g s1, g s2, g r0, g r1⟩)
          clear e0 e1 s0 s1 s2 r0 r1 c0 c1 c2 c3' c4 c5 p0 p1 p2 hx hq kc kc5 hba hBa hb5 hI hc5 dqa hx'
          go_wp2_with fail
          refine wp_region_noPanic ?_
          refine wp_region_held_drew (S := (fun w' => w'.cell? ⟨gc, 0, none⟩ = some (.int .i64 (kk : Int)) ∧ w'.cell? ⟨gc, 1, none⟩ = some (.int .i64 p.nd) ∧ w'.cell? ⟨gm, 0, none⟩ = some (.int .i64 m.v) ∧ w'.cell? ⟨gm, 1, none⟩ = some (.int .i64 m.n) ∧ w'.cell? ⟨gm, 2, none⟩ = some (.slice (some ⟨b, u, none⟩) k c) ∧ w'.cell? ⟨b, u + kk * 3, none⟩ = some (.int .i64 p.fr) ∧ w'.cell? ⟨b, u + kk * 3 + 1, none⟩ = some (.int .i64 p.en))) (by kernel_rfl) (HS.out _ (Below.refl _ _).drew) (fun _ => ?_)
          refine wpAnyH_take (i := 0) (oi := _) (v := ?_) rfl (by kernel_rfl) (by kernel_rfl) (by kernel_rfl) (fun _ _ _ h => h) (Or.inl ⟨by kernel_rfl, ?_⟩) (HS.out _ (Below.refl _ _).drew) ?_
          rotate_left
          · (rintro w ⟨a0, a1, a2, a3, a4, a5, a6⟩; go_simp; (first | done | rfl))
          try simp only [Act.put, List.getElem_toArray, List.getElem_cons_zero, List.getElem_cons_succ, List.setIfInBounds_toArray, List.set_cons_zero, List.set_cons_succ]
          refine wpAnyH_take (i := 1) (oi := _) (v := ?_) rfl (by kernel_rfl) (by kernel_rfl) (by kernel_rfl) (fun _ _ _ h => h) (Or.inl ⟨by kernel_rfl, ?_⟩) (HS.out _ (Below.refl _ _).drew) ?_
          rotate_left
          · (rintro w ⟨a0, a1, a2, a3, a4, a5, a6⟩; go_simp; (first | done | rfl))
          try simp only [Act.put, List.getElem_toArray, List.getElem_cons_zero, List.getElem_cons_succ, List.setIfInBounds_toArray, List.set_cons_zero, List.set_cons_succ]
          refine wpAnyH_take (i := 2) (oi := _) (v := ?_) rfl (by kernel_rfl) (by kernel_rfl) (by kernel_rfl) (fun _ _ _ h => h) (Or.inl ⟨by kernel_rfl, ?_⟩) (HS.out _ (Below.refl _ _).drew) ?_
          rotate_left
          · (rintro w ⟨a0, a1, a2, a3, a4, a5, a6⟩; go_simp; (first | done | rfl))
          try simp only [Act.put, List.getElem_toArray, List.getElem_cons_zero, List.getElem_cons_succ, List.setIfInBounds_toArray, List.set_cons_zero, List.set_cons_succ]
          refine wpAnyH_take (i := 3) (oi := _) (v := ?_) rfl (by kernel_rfl) (by kernel_rfl) (by kernel_rfl) (fun _ _ _ h => h) (Or.inl ⟨by kernel_rfl, ?_⟩) (HS.out _ (Below.refl _ _).drew) ?_
          rotate_left
          · (rintro w ⟨a0, a1, a2, a3, a4, a5, a6⟩; go_simp; (first | done | rfl))
          try simp only [Act.put, List.getElem_toArray, List.getElem_cons_zero, List.getElem_cons_succ, List.setIfInBounds_toArray, List.set_cons_zero, List.set_cons_succ]
          refine wpAnyH_take (i := 4) (oi := _) (v := ?_) rfl (by kernel_rfl) (by kernel_rfl) (by kernel_rfl) (fun _ _ _ h => h) (Or.inl ⟨by kernel_rfl, ?_⟩) (HS.out _ (Below.refl _ _).drew) ?_
          rotate_left
          · (rintro w ⟨a0, a1, a2, a3, a4, a5, a6⟩; go_simp; (first | done | rfl))
          try simp only [Act.put, List.getElem_toArray, List.getElem_cons_zero, List.getElem_cons_succ, List.setIfInBounds_toArray, List.set_cons_zero, List.set_cons_succ]
          refine wpAnyH_take (i := 5) (oi := _) (v := ?_) rfl (by kernel_rfl) (by kernel_rfl) (by kernel_rfl) (fun _ _ _ h => h) (Or.inl ⟨by kernel_rfl, ?_⟩) (HS.out _ (Below.refl _ _).drew) ?_
          rotate_left
          · (rintro w ⟨a0, a1, a2, a3, a4, a5, a6⟩; go_simp; (first | done | rfl))
          try simp only [Act.put, List.getElem_toArray, List.getElem_cons_zero, List.getElem_cons_succ, List.setIfInBounds_toArray, List.set_cons_zero, List.set_cons_succ]
          refine wpAnyH_take (i := 6) (oi := _) (v := ?_) rfl (by kernel_rfl) (by kernel_rfl) (by kernel_rfl) (fun _ _ _ h => h) (Or.inl ⟨by kernel_rfl, ?_⟩) (HS.out _ (Below.refl _ _).drew) ?_
          rotate_left
          · (rintro w ⟨a0, a1, a2, a3, a4, a5, a6⟩; go_simp; (first | done | rfl))
          try simp only [Act.put, List.getElem_toArray, List.getElem_cons_zero, List.getElem_cons_succ, List.setIfInBounds_toArray, List.set_cons_zero, List.set_cons_succ]
          refine wpAnyH_take (i := 7) (oi := _) (v := ?_) rfl (by kernel_rfl) (by kernel_rfl) (by kernel_rfl) (fun _ _ _ h => h) (Or.inl ⟨by kernel_rfl, ?_⟩) (HS.out _ (Below.refl _ _).drew) ?_
          rotate_left
          · (rintro w ⟨a0, a1, a2, a3, a4, a5, a6⟩; go_simp; (first | done | rfl))
          try simp only [Act.put, List.getElem_toArray, List.getElem_cons_zero, List.getElem_cons_succ, List.setIfInBounds_toArray, List.set_cons_zero, List.set_cons_succ]
          refine wpAnyH_take (i := 8) (oi := _) (v := ?_) rfl (by kernel_rfl) (by kernel_rfl) (by kernel_rfl) (fun _ _ _ h => h) (Or.inl ⟨by kernel_rfl, ?_⟩) (HS.out _ (Below.refl _ _).drew) ?_
          rotate_left
          · (rintro w ⟨a0, a1, a2, a3, a4, a5, a6⟩; go_simp; (first | done | rfl))
          try simp only [Act.put, List.getElem_toArray, List.getElem_cons_zero, List.getElem_cons_succ, List.setIfInBounds_toArray, List.set_cons_zero, List.set_cons_succ]
          refine wpAnyH_take (i := 9) (oi := _) (v := ?_) rfl (by kernel_rfl) (by kernel_rfl) (by kernel_rfl) (fun _ _ _ h => h) (Or.inl ⟨by kernel_rfl, ?_⟩) (HS.out _ (Below.refl _ _).drew) ?_
          rotate_left
          · (rintro w ⟨a0, a1, a2, a3, a4, a5, a6⟩; go_simp; (first | done | rfl))
          try simp only [Act.put, List.getElem_toArray, List.getElem_cons_zero, List.getElem_cons_succ, List.setIfInBounds_toArray, List.set_cons_zero, List.set_cons_succ]
          refine wpAnyH_take (i := 10) (oi := _) (v := ?_) rfl (by kernel_rfl) (by kernel_rfl) (by kernel_rfl) (fun _ _ _ h => h) (Or.inl ⟨by kernel_rfl, ?_⟩) (HS.out _ (Below.refl _ _).drew) ?_
          rotate_left
          · (rintro w ⟨a0, a1, a2, a3, a4, a5, a6⟩; go_simp; (first | done | rfl))
          try simp only [Act.put, List.getElem_toArray, List.getElem_cons_zero, List.getElem_cons_succ, List.setIfInBounds_toArray, List.set_cons_zero, List.set_cons_succ]
          refine wpAnyH_take (i := 11) (oi := _) (v := ?_) rfl (by kernel_rfl) (by kernel_rfl) (by kernel_rfl) (fun _ _ _ h => h) (Or.inl ⟨by kernel_rfl, ?_⟩) (HS.out _ (Below.refl _ _).drew) ?_
          rotate_left
          · (rintro w ⟨a0, a1, a2, a3, a4, a5, a6⟩; go_simp; (first | done | rfl))
          try simp only [Act.put, List.getElem_toArray, List.getElem_cons_zero, List.getElem_cons_succ, List.setIfInBounds_toArray, List.set_cons_zero, List.set_cons_succ]
          refine wpAnyH_take (i := 12) (oi := _) (v := ?_) rfl (by kernel_rfl) (by kernel_rfl) (by kernel_rfl) (fun _ _ _ h => h) (Or.inl ⟨by kernel_rfl, ?_⟩) (HS.out _ (Below.refl _ _).drew) ?_
          rotate_left
          · (rintro w ⟨a0, a1, a2, a3, a4, a5, a6⟩; go_simp; (first | done | rfl))
          try simp only [Act.put, List.getElem_toArray, List.getElem_cons_zero, List.getElem_cons_succ, List.setIfInBounds_toArray, List.set_cons_zero, List.set_cons_succ]
          refine wpAnyH_take (i := 13) (oi := _) (v := ?_) rfl (by kernel_rfl) (by kernel_rfl) (by kernel_rfl) (fun _ _ _ h => h) (Or.inl ⟨by kernel_rfl, ?_⟩) (HS.out _ (Below.refl _ _).drew) ?_
          rotate_left
          · (rintro w ⟨a0, a1, a2, a3, a4, a5, a6⟩; go_simp; (first | done | rfl))
          try simp only [Act.put, List.getElem_toArray, List.getElem_cons_zero, List.getElem_cons_succ, List.setIfInBounds_toArray, List.set_cons_zero, List.set_cons_succ]
          refine wpAnyH_take (i := 14) (oi := _) (v := ?_) rfl (by kernel_rfl) (by kernel_rfl) (by kernel_rfl) (fun _ _ _ h => h) (Or.inl ⟨by kernel_rfl, ?_⟩) (HS.out _ (Below.refl _ _).drew) ?_
          rotate_left
          · (rintro w ⟨a0, a1, a2, a3, a4, a5, a6⟩; go_simp; (first | done | rfl))
          try simp only [Act.put, List.getElem_toArray, List.getElem_cons_zero, List.getElem_cons_succ, List.setIfInBounds_toArray, List.set_cons_zero, List.set_cons_succ]
          refine wpAnyH_take (i := 15) (oi := _) (v := ?_) rfl (by kernel_rfl) (by kernel_rfl) (by kernel_rfl) (fun _ _ _ h => h) (Or.inl ⟨by kernel_rfl, ?_⟩) (HS.out _ (Below.refl _ _).drew) ?_
          rotate_left
          · (rintro w ⟨a0, a1, a2, a3, a4, a5, a6⟩; go_simp; (first | done | rfl))
          try simp only [Act.put, List.getElem_toArray, List.getElem_cons_zero, List.getElem_cons_succ, List.setIfInBounds_toArray, List.set_cons_zero, List.set_cons_succ]
          refine wpAnyH_take (i := 16) (oi := _) (v := ?_) rfl (by kernel_rfl) (by kernel_rfl) (by kernel_rfl) (fun _ _ _ h => h) (Or.inl ⟨by kernel_rfl, ?_⟩) (HS.out _ (Below.refl _ _).drew) ?_
          rotate_left
          · (rintro w ⟨a0, a1, a2, a3, a4, a5, a6⟩; go_simp; (first | done | rfl))
          try simp only [Act.put, List.getElem_toArray, List.getElem_cons_zero, List.getElem_cons_succ, List.setIfInBounds_toArray, List.set_cons_zero, List.set_cons_succ]
          refine wpAnyH_take (i := 17) (oi := _) (v := ?_) rfl (by kernel_rfl) (by kernel_rfl) (by kernel_rfl) (fun _ _ _ h => h) (Or.inl ⟨by kernel_rfl, ?_⟩) (HS.out _ (Below.refl _ _).drew) ?_
          rotate_left
          · (rintro w ⟨a0, a1, a2, a3, a4, a5, a6⟩; go_simp; (first | done | rfl))
          try simp only [Act.put, List.getElem_toArray, List.getElem_cons_zero, List.getElem_cons_succ, List.setIfInBounds_toArray, List.set_cons_zero, List.set_cons_succ]
          refine wpAnyH_take (i := 18) (oi := _) (v := ?_) rfl (by kernel_rfl) (by kernel_rfl) (by kernel_rfl) (fun _ _ _ h => h) (Or.inl ⟨by kernel_rfl, ?_⟩) (HS.out _ (Below.refl _ _).drew) ?_
          rotate_left
          · (rintro w ⟨a0, a1, a2, a3, a4, a5, a6⟩; go_simp; (first | done | rfl))
          try simp only [Act.put, List.getElem_toArray, List.getElem_cons_zero, List.getElem_cons_succ, List.setIfInBounds_toArray, List.set_cons_zero, List.set_cons_succ]
          refine wpAnyH_take (i := 19) (oi := _) (v := ?_) rfl (by kernel_rfl) (by kernel_rfl) (by kernel_rfl) (fun _ _ _ h => h) (Or.inl ⟨by kernel_rfl, ?_⟩) (HS.out _ (Below.refl _ _).drew) ?_
          rotate_left
          · (rintro w ⟨a0, a1, a2, a3, a4, a5, a6⟩; go_simp; (first | done | rfl))
          try simp only [Act.put, List.getElem_toArray, List.getElem_cons_zero, List.getElem_cons_succ, List.setIfInBounds_toArray, List.set_cons_zero, List.set_cons_succ]
          refine wpAnyH_take (i := 20) (oi := _) (v := ?_) rfl (by kernel_rfl) (by kernel_rfl) (by kernel_rfl) (fun _ _ _ h => h) (Or.inl ⟨by kernel_rfl, ?_⟩) (HS.out _ (Below.refl _ _).drew) ?_
          rotate_left
          · (rintro w ⟨a0, a1, a2, a3, a4, a5, a6⟩; go_simp; (first | done | rfl))
          try simp only [Act.put, List.getElem_toArray, List.getElem_cons_zero, List.getElem_cons_succ, List.setIfInBounds_toArray, List.set_cons_zero, List.set_cons_succ]
          refine wpAnyH_take (i := 21) (oi := _) (v := ?_) rfl (by kernel_rfl) (by kernel_rfl) (by kernel_rfl) (fun _ _ _ h => h) (Or.inl ⟨by kernel_rfl, ?_⟩) (HS.out _ (Below.refl _ _).drew) ?_
          rotate_left
          · (rintro w ⟨a0, a1, a2, a3, a4, a5, a6⟩; go_simp; (first | done | rfl))
          try simp only [Act.put, List.getElem_toArray, List.getElem_cons_zero, List.getElem_cons_succ, List.setIfInBounds_toArray, List.set_cons_zero, List.set_cons_succ]
          refine wpAnyH_take (i := 22) (oi := _) (v := ?_) rfl (by kernel_rfl) (by kernel_rfl) (by kernel_rfl) (fun _ _ _ h => h) (Or.inl ⟨by kernel_rfl, ?_⟩) (HS.out _ (Below.refl _ _).drew) ?_
          rotate_left
          · (rintro w ⟨a0, a1, a2, a3, a4, a5, a6⟩; go_simp; (first | done | rfl))
          try simp only [Act.put, List.getElem_toArray, List.getElem_cons_zero, List.getElem_cons_succ, List.setIfInBounds_toArray, List.set_cons_zero, List.set_cons_succ]
          refine wpAnyH_take (i := 23) (oi := _) (v := ?_) rfl (by kernel_rfl) (by kernel_rfl) (by kernel_rfl) (fun _ _ _ h => h) (Or.inl ⟨by kernel_rfl, ?_⟩) (HS.out _ (Below.refl _ _).drew) ?_
          rotate_left
          · (rintro w ⟨a0, a1, a2, a3, a4, a5, a6⟩; go_simp; (first | done | rfl))
          try simp only [Act.put, List.getElem_toArray, List.getElem_cons_zero, List.getElem_cons_succ, List.setIfInBounds_toArray, List.set_cons_zero, List.set_cons_succ]
          refine wpAnyH_take (i := 24) (oi := _) (v := ?_) rfl (by kernel_rfl) (by kernel_rfl) (by kernel_rfl) (fun _ _ _ h => h) (Or.inl ⟨by kernel_rfl, ?_⟩) (HS.out _ (Below.refl _ _).drew) ?_
          rotate_left
          · (rintro w ⟨a0, a1, a2, a3, a4, a5, a6⟩; go_simp; (first | done | rfl))
          try simp only [Act.put, List.getElem_toArray, List.getElem_cons_zero, List.getElem_cons_succ, List.setIfInBounds_toArray, List.set_cons_zero, List.set_cons_succ]
          refine wpAnyH_take (i := 25) (oi := _) (v := ?_) rfl (by kernel_rfl) (by kernel_rfl) (by kernel_rfl) (fun _ _ _ h => h) (Or.inl ⟨by kernel_rfl, ?_⟩) (HS.out _ (Below.refl _ _).drew) ?_
          rotate_left
          · (rintro w ⟨a0, a1, a2, a3, a4, a5, a6⟩; go_simp; (first | done | rfl))
          try simp only [Act.put, List.getElem_toArray, List.getElem_cons_zero, List.getElem_cons_succ, List.setIfInBounds_toArray, List.set_cons_zero, List.set_cons_succ]
          refine wpAnyH_take (i := 26) (oi := _) (v := ?_) rfl (by kernel_rfl) (by kernel_rfl) (by kernel_rfl) (fun _ _ _ h => h) (Or.inl ⟨by kernel_rfl, ?_⟩) (HS.out _ (Below.refl _ _).drew) ?_
          rotate_left
          · (rintro w ⟨a0, a1, a2, a3, a4, a5, a6⟩; go_simp; (first | done | rfl))
          try simp only [Act.put, List.getElem_toArray, List.getElem_cons_zero, List.getElem_cons_succ, List.setIfInBounds_toArray, List.set_cons_zero, List.set_cons_succ]
          refine wpAnyH_take (i := 27) (oi := _) (v := ?_) rfl (by kernel_rfl) (by kernel_rfl) (by kernel_rfl) (fun _ _ _ h => h) (Or.inl ⟨by kernel_rfl, ?_⟩) (HS.out _ (Below.refl _ _).drew) ?_
          rotate_left
          · (rintro w ⟨a0, a1, a2, a3, a4, a5, a6⟩; go_simp; (first | done | rfl))
          try simp only [Act.put, List.getElem_toArray, List.getElem_cons_zero, List.getElem_cons_succ, List.setIfInBounds_toArray, List.set_cons_zero, List.set_cons_succ]
          refine wpAnyH_take (i := 28) (oi := _) (v := ?_) rfl (by kernel_rfl) (by kernel_rfl) (by kernel_rfl) (fun _ _ _ h => h) (Or.inl ⟨by kernel_rfl, ?_⟩) (HS.out _ (Below.refl _ _).drew) ?_
          rotate_left
          · (rintro w ⟨a0, a1, a2, a3, a4, a5, a6⟩; go_simp; (first | done | rfl))
          try simp only [Act.put, List.getElem_toArray, List.getElem_cons_zero, List.getElem_cons_succ, List.setIfInBounds_toArray, List.set_cons_zero, List.set_cons_succ]
          refine wpAnyH_take (i := 29) (oi := _) (v := ?_) rfl (by kernel_rfl) (by kernel_rfl) (by kernel_rfl) (fun _ _ _ h => h) (Or.inl ⟨by kernel_rfl, ?_⟩) (HS.out _ (Below.refl _ _).drew) ?_
          rotate_left
          · (rintro w ⟨a0, a1, a2, a3, a4, a5, a6⟩; go_simp; (first | done | rfl))
          try simp only [Act.put, List.getElem_toArray, List.getElem_cons_zero, List.getElem_cons_succ, List.setIfInBounds_toArray, List.set_cons_zero, List.set_cons_succ]
          refine wpAnyH_take (i := 30) (oi := _) (v := ?_) rfl (by kernel_rfl) (by kernel_rfl) (by kernel_rfl) (fun _ _ _ h => h) (Or.inl ⟨by kernel_rfl, ?_⟩) (HS.out _ (Below.refl _ _).drew) ?_
          rotate_left
          · (rintro w ⟨a0, a1, a2, a3, a4, a5, a6⟩; go_simp; (first | done | rfl))
          try simp only [Act.put, List.getElem_toArray, List.getElem_cons_zero, List.getElem_cons_succ, List.setIfInBounds_toArray, List.set_cons_zero, List.set_cons_succ]
          refine wpAnyH_take (i := 31) (oi := _) (v := ?_) rfl (by kernel_rfl) (by kernel_rfl) (by kernel_rfl) (fun _ _ _ h => h) (Or.inl ⟨by kernel_rfl, ?_⟩) (HS.out _ (Below.refl _ _).drew) ?_
          rotate_left
          · (rintro w ⟨a0, a1, a2, a3, a4, a5, a6⟩; go_simp; (first | done | rfl))
          try simp only [Act.put, List.getElem_toArray, List.getElem_cons_zero, List.getElem_cons_succ, List.setIfInBounds_toArray, List.set_cons_zero, List.set_cons_succ]
          refine wpAnyH_take (i := 32) (oi := _) (v := ?_) rfl (by kernel_rfl) (by kernel_rfl) (by kernel_rfl) (fun _ _ _ h => h) (Or.inl ⟨by kernel_rfl, ?_⟩) (HS.out _ (Below.refl _ _).drew) ?_
          rotate_left
          · (rintro w ⟨a0, a1, a2, a3, a4, a5, a6⟩; go_simp; (first | done | rfl))
          try simp only [Act.put, List.getElem_toArray, List.getElem_cons_zero, List.getElem_cons_succ, List.setIfInBounds_toArray, List.set_cons_zero, List.set_cons_succ]
          refine wpAnyH_take (i := 33) (oi := _) (v := ?_) rfl (by kernel_rfl) (by kernel_rfl) (by kernel_rfl) (fun _ _ _ h => h) (Or.inl ⟨by kernel_rfl, ?_⟩) (HS.out _ (Below.refl _ _).drew) ?_
          rotate_left
          · (rintro w ⟨a0, a1, a2, a3, a4, a5, a6⟩; go_simp; (first | done | rfl))
          try simp only [Act.put, List.getElem_toArray, List.getElem_cons_zero, List.getElem_cons_succ, List.setIfInBounds_toArray, List.set_cons_zero, List.set_cons_succ]
          refine wpAnyH_take (i := 34) (oi := _) (v := ?_) rfl (by kernel_rfl) (by kernel_rfl) (by kernel_rfl) (fun _ _ _ h => h) (Or.inl ⟨by kernel_rfl, ?_⟩) (HS.out _ (Below.refl _ _).drew) ?_
          rotate_left
          · (rintro w ⟨a0, a1, a2, a3, a4, a5, a6⟩; go_simp; (first | done | rfl))
          try simp only [Act.put, List.getElem_toArray, List.getElem_cons_zero, List.getElem_cons_succ, List.setIfInBounds_toArray, List.set_cons_zero, List.set_cons_succ]
          refine wpAnyH_take (i := 35) (oi := _) (v := ?_) rfl (by kernel_rfl) (by kernel_rfl) (by kernel_rfl) (fun _ _ _ h => h) (Or.inl ⟨by kernel_rfl, ?_⟩) (HS.out _ (Below.refl _ _).drew) ?_
          rotate_left
          · (rintro w ⟨a0, a1, a2, a3, a4, a5, a6⟩; go_simp; (first | done | rfl))
          try simp only [Act.put, List.getElem_toArray, List.getElem_cons_zero, List.getElem_cons_succ, List.setIfInBounds_toArray, List.set_cons_zero, List.set_cons_succ]
          refine wpAnyH_take (i := 36) (oi := _) (v := ?_) rfl (by kernel_rfl) (by kernel_rfl) (by kernel_rfl) (fun _ _ _ h => h) (Or.inl ⟨by kernel_rfl, ?_⟩) (HS.out _ (Below.refl _ _).drew) ?_
          rotate_left
          · (rintro w ⟨a0, a1, a2, a3, a4, a5, a6⟩; go_simp; (first | done | rfl))
          try simp only [Act.put, List.getElem_toArray, List.getElem_cons_zero, List.getElem_cons_succ, List.setIfInBounds_toArray, List.set_cons_zero, List.set_cons_succ]
          refine wpAnyH_take (i := 37) (oi := _) (v := ?_) rfl (by kernel_rfl) (by kernel_rfl) (by kernel_rfl) (fun _ _ _ h => h) (Or.inl ⟨by kernel_rfl, ?_⟩) (HS.out _ (Below.refl _ _).drew) ?_
          rotate_left
          · (rintro w ⟨a0, a1, a2, a3, a4, a5, a6⟩; go_simp; (first | done | rfl))
          try simp only [Act.put, List.getElem_toArray, List.getElem_cons_zero, List.getElem_cons_succ, List.setIfInBounds_toArray, List.set_cons_zero, List.set_cons_succ]
          refine wpAnyH_take (i := 38) (oi := _) (v := ?_) rfl (by kernel_rfl) (by kernel_rfl) (by kernel_rfl) (fun _ _ _ h => h) (Or.inl ⟨by kernel_rfl, ?_⟩) (HS.out _ (Below.refl _ _).drew) ?_
          rotate_left
          · (rintro w ⟨a0, a1, a2, a3, a4, a5, a6⟩; go_simp; (first | done | rfl))
          try simp only [Act.put, List.getElem_toArray, List.getElem_cons_zero, List.getElem_cons_succ, List.setIfInBounds_toArray, List.set_cons_zero, List.set_cons_succ]
          refine wpAnyH_take (i := 39) (oi := _) (v := ?_) rfl (by kernel_rfl) (by kernel_rfl) (by kernel_rfl) (fun _ _ _ h => h) (Or.inl ⟨by kernel_rfl, ?_⟩) (HS.out _ (Below.refl _ _).drew) ?_
          rotate_left
          · (rintro w ⟨a0, a1, a2, a3, a4, a5, a6⟩; go_simp; (first | done | rfl))
          try simp only [Act.put, List.getElem_toArray, List.getElem_cons_zero, List.getElem_cons_succ, List.setIfInBounds_toArray, List.set_cons_zero, List.set_cons_succ]
          refine wpAnyH_take (i := 40) (oi := _) (v := ?_) rfl (by kernel_rfl) (by kernel_rfl) (by kernel_rfl) (fun _ _ _ h => h) (Or.inl ⟨by kernel_rfl, ?_⟩) (HS.out _ (Below.refl _ _).drew) ?_
          rotate_left
          · (rintro w ⟨a0, a1, a2, a3, a4, a5, a6⟩; go_simp; (first | done | rfl))
          try simp only [Act.put, List.getElem_toArray, List.getElem_cons_zero, List.getElem_cons_succ, List.setIfInBounds_toArray, List.set_cons_zero, List.set_cons_succ]
          refine wpAnyH_take (i := 41) (oi := _) (v := ?_) rfl (by kernel_rfl) (by kernel_rfl) (by kernel_rfl) (fun _ _ _ h => h) (Or.inl ⟨by kernel_rfl, ?_⟩) (HS.out _ (Below.refl _ _).drew) ?_
          rotate_left
          · (rintro w ⟨a0, a1, a2, a3, a4, a5, a6⟩; go_simp; (first | done | rfl))
          try simp only [Act.put, List.getElem_toArray, List.getElem_cons_zero, List.getElem_cons_succ, List.setIfInBounds_toArray, List.set_cons_zero, List.set_cons_succ]
          refine wpAnyH_take (i := 42) (oi := _) (v := ?_) rfl (by kernel_rfl) (by kernel_rfl) (by kernel_rfl) (fun _ _ _ h => h) (Or.inl ⟨by kernel_rfl, ?_⟩) (HS.out _ (Below.refl _ _).drew) ?_
          rotate_left
          · (rintro w ⟨a0, a1, a2, a3, a4, a5, a6⟩; go_simp; (first | done | rfl))
          try simp only [Act.put, List.getElem_toArray, List.getElem_cons_zero, List.getElem_cons_succ, List.setIfInBounds_toArray, List.set_cons_zero, List.set_cons_succ]
          refine wpAnyH_take (i := 43) (oi := _) (v := ?_) rfl (by kernel_rfl) (by kernel_rfl) (by kernel_rfl) (fun _ _ _ h => h) (Or.inl ⟨by kernel_rfl, ?_⟩) (HS.out _ (Below.refl _ _).drew) ?_
          rotate_left
          · (rintro w ⟨a0, a1, a2, a3, a4, a5, a6⟩; go_simp; (first | done | rfl))
          try simp only [Act.put, List.getElem_toArray, List.getElem_cons_zero, List.getElem_cons_succ, List.setIfInBounds_toArray, List.set_cons_zero, List.set_cons_succ]
          refine wpAnyH_ready (rs := [44]) (by kernel_rfl) (by simp) (AllReadyH.cons (o := _) rfl (fun K hK => ?_) AllReadyH.nil)
          rw [if_pos (by kernel_rfl)]
          refine wp_fn 31 _ _ rfl _ rfl enters_N (rnodeAt_ _ m (some ⟨b, u, none⟩) k c (hm5.drewN 1) hr f hf0 hfn) ?_
          rw [HN.out]
          rintro e w6 ⟨rfl, hc6⟩
          have hb56 : Below w5.heap.size w5 w6 := below_step (Below.refl w5.heap.size w5).drew hc6 (Nat.le_refl _)
          have hB6 := below_step hB5 hb56 (Nat.le_refl _)
          refine ⟨_, rfl, ?_⟩
          refine hK.out _ _ (HS.out _ hb56) (fun _ => ?_)
          clear hK K
          try simp only [Act.put, List.getElem_toArray, List.getElem_cons_zero, List.getElem_cons_succ, List.setIfInBounds_toArray, List.set_cons_zero, List.set_cons_succ]
          refine wpAnyH_take (i := 45) (oi := _) (v := ?_) rfl (by kernel_rfl) (by kernel_rfl) (by kernel_rfl) (fun _ _ _ h => h) (Or.inl ⟨by kernel_rfl, ?_⟩) (HS.out _ hb56) ?_
          rotate_left
          · (rintro w ⟨a0, a1, a2, a3, a4, a5, a6⟩; go_simp; (first | done | rfl))
          try simp only [Act.put, List.getElem_toArray, List.getElem_cons_zero, List.getElem_cons_succ, List.setIfInBounds_toArray, List.set_cons_zero, List.set_cons_succ]
          refine wpAnyH_take (i := 46) (oi := _) (v := ?_) rfl (by kernel_rfl) (by kernel_rfl) (by kernel_rfl) (fun _ _ _ h => h) (Or.inl ⟨by kernel_rfl, ?_⟩) (HS.out _ hb56) ?_
          rotate_left
          · (rintro w ⟨a0, a1, a2, a3, a4, a5, a6⟩; go_simp; (first | done | rfl))
          try simp only [Act.put, List.getElem_toArray, List.getElem_cons_zero, List.getElem_cons_succ, List.setIfInBounds_toArray, List.set_cons_zero, List.set_cons_succ]
          refine wpAnyH_take (i := 47) (oi := _) (v := ?_) rfl (by kernel_rfl) (by kernel_rfl) (by kernel_rfl) (fun _ _ _ h => h) (Or.inl ⟨by kernel_rfl, ?_⟩) (HS.out _ hb56) ?_
          rotate_left
          · (rintro w ⟨a0, a1, a2, a3, a4, a5, a6⟩; go_simp; (first | done | rfl))
          try simp only [Act.put, List.getElem_toArray, List.getElem_cons_zero, List.getElem_cons_succ, List.setIfInBounds_toArray, List.set_cons_zero, List.set_cons_succ]
          refine wpAnyH_take (i := 48) (oi := _) (v := ?_) rfl (by kernel_rfl) (by kernel_rfl) (by kernel_rfl) (fun _ _ _ h => h) (Or.inl ⟨by kernel_rfl, ?_⟩) (HS.out _ hb56) ?_
          rotate_left
          · (rintro w ⟨a0, a1, a2, a3, a4, a5, a6⟩; go_simp; (first | done | rfl))
          try simp only [Act.put, List.getElem_toArray, List.getElem_cons_zero, List.getElem_cons_succ, List.setIfInBounds_toArray, List.set_cons_zero, List.set_cons_succ]
          refine wpAnyH_take (i := 49) (oi := _) (v := ?_) rfl (by kernel_rfl) (by kernel_rfl) (by kernel_rfl) (fun _ _ _ h => h) (Or.inl ⟨by kernel_rfl, ?_⟩) (HS.out _ hb56) ?_
          rotate_left
          · (rintro w ⟨a0, a1, a2, a3, a4, a5, a6⟩; go_simp; (first | done | rfl))
          try simp only [Act.put, List.getElem_toArray, List.getElem_cons_zero, List.getElem_cons_succ, List.setIfInBounds_toArray, List.set_cons_zero, List.set_cons_succ]
          refine wpAnyH_take (i := 50) (oi := _) (v := ?_) rfl (by kernel_rfl) (by kernel_rfl) (by kernel_rfl) (fun _ _ _ h => h) (Or.inl ⟨by kernel_rfl, ?_⟩) (HS.out _ hb56) ?_
          rotate_left
          · (rintro w ⟨a0, a1, a2, a3, a4, a5, a6⟩; go_simp; (first | done | rfl))
          try simp only [Act.put, List.getElem_toArray, List.getElem_cons_zero, List.getElem_cons_succ, List.setIfInBounds_toArray, List.set_cons_zero, List.set_cons_succ]
          refine wpAnyH_take (i := 51) (oi := _) (v := undef) rfl (by kernel_rfl) (by kernel_rfl) (by kernel_rfl) (fun _ _ _ h => h) (Or.inr ⟨by kernel_rfl, rfl⟩) (HS.out _ hb56) ?_
          try simp only [Act.put, List.getElem_toArray, List.getElem_cons_zero, List.getElem_cons_succ, List.setIfInBounds_toArray, List.set_cons_zero, List.set_cons_succ]
          refine wpAnyH_take (i := 52) (oi := _) (v := undef) rfl (by kernel_rfl) (by kernel_rfl) (by kernel_rfl) (fun _ _ _ h => h) (Or.inr ⟨by kernel_rfl, rfl⟩) (HS.out _ hb56) ?_
          try simp only [Act.put, List.getElem_toArray, List.getElem_cons_zero, List.getElem_cons_succ, List.setIfInBounds_toArray, List.set_cons_zero, List.set_cons_succ]
          refine wpAnyH_take (i := 53) (oi := _) (v := undef) rfl (by kernel_rfl) (by kernel_rfl) (by kernel_rfl) (fun _ _ _ h => h) (Or.inr ⟨by kernel_rfl, rfl⟩) (HS.out _ hb56) ?_
          try simp only [Act.put, List.getElem_toArray, List.getElem_cons_zero, List.getElem_cons_succ, List.setIfInBounds_toArray, List.set_cons_zero, List.set_cons_succ]
          refine wpAnyH_take (i := 54) (oi := _) (v := undef) rfl (by kernel_rfl) (by kernel_rfl) (by kernel_rfl) (fun _ _ _ h => h) (Or.inr ⟨by kernel_rfl, rfl⟩) (HS.out _ hb56) ?_
          try simp only [Act.put, List.getElem_toArray, List.getElem_cons_zero, List.getElem_cons_succ, List.setIfInBounds_toArray, List.set_cons_zero, List.set_cons_succ]
          refine wpAnyH_take (i := 55) (oi := _) (v := undef) rfl (by kernel_rfl) (by kernel_rfl) (by kernel_rfl) (fun _ _ _ h => h) (Or.inr ⟨by kernel_rfl, rfl⟩) (HS.out _ hb56) ?_
          try simp only [Act.put, List.getElem_toArray, List.getElem_cons_zero, List.getElem_cons_succ, List.setIfInBounds_toArray, List.set_cons_zero, List.set_cons_succ]
          refine wpAnyH_take (i := 56) (oi := _) (v := undef) rfl (by kernel_rfl) (by kernel_rfl) (by kernel_rfl) (fun _ _ _ h => h) (Or.inr ⟨by kernel_rfl, rfl⟩) (HS.out _ hb56) ?_
          try simp only [Act.put, List.getElem_toArray, List.getElem_cons_zero, List.getElem_cons_succ, List.setIfInBounds_toArray, List.set_cons_zero, List.set_cons_succ]
          refine wpAnyH_take (i := 57) (oi := _) (v := undef) rfl (by kernel_rfl) (by kernel_rfl) (by kernel_rfl) (fun _ _ _ h => h) (Or.inr ⟨by kernel_rfl, rfl⟩) (HS.out _ hb56) ?_
          try simp only [Act.put, List.getElem_toArray, List.getElem_cons_zero, List.getElem_cons_succ, List.setIfInBounds_toArray, List.set_cons_zero, List.set_cons_succ]
          refine wpAnyH_take (i := 58) (oi := _) (v := undef) rfl (by kernel_rfl) (by kernel_rfl) (by kernel_rfl) (fun _ _ _ h => h) (Or.inr ⟨by kernel_rfl, rfl⟩) (HS.out _ hb56) ?_
          try simp only [Act.put, List.getElem_toArray, List.getElem_cons_zero, List.getElem_cons_succ, List.setIfInBounds_toArray, List.set_cons_zero, List.set_cons_succ]
          refine wpAnyH_take (i := 59) (oi := _) (v := undef) rfl (by kernel_rfl) (by kernel_rfl) (by kernel_rfl) (fun _ _ _ h => h) (Or.inr ⟨by kernel_rfl, rfl⟩) (HS.out _ hb56) ?_
          try simp only [Act.put, List.getElem_toArray, List.getElem_cons_zero, List.getElem_cons_succ, List.setIfInBounds_toArray, List.set_cons_zero, List.set_cons_succ]
          refine wpAnyH_take (i := 60) (oi := _) (v := ?_) rfl (by kernel_rfl) (by kernel_rfl) (by kernel_rfl) (fun _ _ _ h => h) (Or.inl ⟨by kernel_rfl, ?_⟩) (HS.out _ hb56) ?_
          rotate_left
          · (rintro w ⟨a0, a1, a2, a3, a4, a5, a6⟩; go_simp; (first | done | rfl))
          try simp only [Act.put, List.getElem_toArray, List.getElem_cons_zero, List.getElem_cons_succ, List.setIfInBounds_toArray, List.set_cons_zero, List.set_cons_succ]
          refine wpAnyH_take (i := 61) (oi := _) (v := ?_) rfl (by kernel_rfl) (by kernel_rfl) (by kernel_rfl) (fun _ _ _ h => h) (Or.inl ⟨by kernel_rfl, ?_⟩) (HS.out _ hb56) ?_
          rotate_left
          · (rintro w ⟨a0, a1, a2, a3, a4, a5, a6⟩; go_simp; (first | done | rfl))
          try simp only [Act.put, List.getElem_toArray, List.getElem_cons_zero, List.getElem_cons_succ, List.setIfInBounds_toArray, List.set_cons_zero, List.set_cons_succ]
          refine wpAnyH_done (by kernel_rfl) ?_ _
          refine NoPanic.normal ?_
          go_wp2
          go_roundw
          case rel => exact ⟨1, by omega, by go_num, hB6⟩
          case measure => simp [intOf]; omega
        · obtain ⟨i0, hi0⟩ : ∃ i0, i0 + 1 = j := ⟨j - 1, by omega⟩
          obtain ⟨b3', o3', q0, Xq', qm', qc', e3, hx0, -, -, -, z0, -⟩ := (hp.below hb).at_ (k := i0) (by omega)
          injection e3 with e3
          injection e3 with e31 e32
          subst e31 e32
          have hq0 : (opsL m o)[i0]? = some q0 := by rw [← HL3.out, List.getElem?_map, hx0]; rfl
          have hris := HRi.out i0 q0 q hq0 (by rw [hi0]; exact hq)
          rw [HI.out.pc] at hris
          have f6 : (0 : Int) < (j : Int) := by omega
          have f6' : 0 < j := by omega
          have f6d : decide (0 < j) = true := decide_eq_true f6'
          have f7 : ¬ (kk : Int) ≤ q0.pc := by omega
          have f7d : decide ((kk : Int) ≤ q0.pc) = false := decide_eq_false f7
          have hwj : IntKind.i64.wrap ((j : Int) - 1) = (i0 : Int) := by rw [IntKind.wrap_i64]; omega
          have hi00 : (0 : Int) ≤ (i0 : Int) := by omega
          have hi0l : (i0 : Int) < (n3 : Int) := by omega
          have z5 := G5.out _ _ z0
          have HS := Lib.hid (fun w' (hb : Below w5.heap.size w5 w') => show w'.cell? ⟨gc, 0, none⟩ = some (.int .i64 (kk : Int)) ∧ w'.cell? ⟨gc, 1, none⟩ = some (.int .i64 p.nd) ∧ w'.cell? ⟨gm, 0, none⟩ = some (.int .i64 m.v) ∧ w'.cell? ⟨gm, 1, none⟩ = some (.int .i64 m.n) ∧ w'.cell? ⟨gm, 2, none⟩ = some (.slice (some ⟨b, u, none⟩) k c) ∧ w'.cell? ⟨b, u + kk * 3, none⟩ = some (.int .i64 p.fr) ∧ w'.cell? ⟨b, u + kk * 3 + 1, none⟩ = some (.int .i64 p.en) ∧ w'.cell? ⟨b3, o3 + i0 * 6, none⟩ = some (.int .i64 q0.pc) from by
            have g : ∀ {x : Addr} {y : Value}, w5.cell? x = some y → w'.cell? x = some y := fun h => (hb.cell (cell_lt h)).trans h
            exact ⟨g e0, g e1, g s0, g s1, g s2, g r0, g r1, g z5⟩)
          clear e0 e1 s0 s1 s2 r0 r1 c0 c1 c2 c3' c4 c5 p0 p1 p2 hx hq kc kc5 hba hBa hb5 hI hc5 dqa hx' z0 z5 hx0 hq0 hris hi0 hj1
          go_wp2_with fail
          refine wp_region_noPanic ?_
          refine wp_region_held_drew (S := (fun w' => w'.cell? ⟨gc, 0, none⟩ = some (.int .i64 (kk : Int)) ∧ w'.cell? ⟨gc, 1, none⟩ = some (.int .i64 p.nd) ∧ w'.cell? ⟨gm, 0, none⟩ = some (.int .i64 m.v) ∧ w'.cell? ⟨gm, 1, none⟩ = some (.int .i64 m.n) ∧ w'.cell? ⟨gm, 2, none⟩ = some (.slice (some ⟨b, u, none⟩) k c) ∧ w'.cell? ⟨b, u + kk * 3, none⟩ = some (.int .i64 p.fr) ∧ w'.cell? ⟨b, u + kk * 3 + 1, none⟩ = some (.int .i64 p.en) ∧ w'.cell? ⟨b3, o3 + i0 * 6, none⟩ = some (.int .i64 q0.pc))) (by kernel_rfl) (HS.out _ (Below.refl _ _).drew) (fun _ => ?_)
          refine wpAnyH_take (i := 0) (oi := _) (v := ?_) rfl (by kernel_rfl) (by kernel_rfl) (by kernel_rfl) (fun _ _ _ h => h) (Or.inl ⟨by kernel_rfl, ?_⟩) (HS.out _ (Below.refl _ _).drew) ?_
          rotate_left
          · (rintro w ⟨a0, a1, a2, a3, a4, a5, a6, a7⟩; go_simp; (first | done | rfl))
          try simp only [Act.put, List.getElem_toArray, List.getElem_cons_zero, List.getElem_cons_succ, List.setIfInBounds_toArray, List.set_cons_zero, List.set_cons_succ]
          refine wpAnyH_take (i := 1) (oi := _) (v := ?_) rfl (by kernel_rfl) (by kernel_rfl) (by kernel_rfl) (fun _ _ _ h => h) (Or.inl ⟨by kernel_rfl, ?_⟩) (HS.out _ (Below.refl _ _).drew) ?_
          rotate_left
          · (rintro w ⟨a0, a1, a2, a3, a4, a5, a6, a7⟩; go_simp; (first | done | rfl))
          try simp only [Act.put, List.getElem_toArray, List.getElem_cons_zero, List.getElem_cons_succ, List.setIfInBounds_toArray, List.set_cons_zero, List.set_cons_succ]
          refine wpAnyH_take (i := 2) (oi := _) (v := ?_) rfl (by kernel_rfl) (by kernel_rfl) (by kernel_rfl) (fun _ _ _ h => h) (Or.inl ⟨by kernel_rfl, ?_⟩) (HS.out _ (Below.refl _ _).drew) ?_
          rotate_left
          · (rintro w ⟨a0, a1, a2, a3, a4, a5, a6, a7⟩; go_simp; (first | done | rfl))
          try simp only [Act.put, List.getElem_toArray, List.getElem_cons_zero, List.getElem_cons_succ, List.setIfInBounds_toArray, List.set_cons_zero, List.set_cons_succ]
          refine wpAnyH_take (i := 3) (oi := _) (v := ?_) rfl (by kernel_rfl) (by kernel_rfl) (by kernel_rfl) (fun _ _ _ h => h) (Or.inl ⟨by kernel_rfl, ?_⟩) (HS.out _ (Below.refl _ _).drew) ?_
          rotate_left
          · (rintro w ⟨a0, a1, a2, a3, a4, a5, a6, a7⟩; go_simp; (first | done | rfl))
          try simp only [Act.put, List.getElem_toArray, List.getElem_cons_zero, List.getElem_cons_succ, List.setIfInBounds_toArray, List.set_cons_zero, List.set_cons_succ]
          refine wpAnyH_take (i := 4) (oi := _) (v := ?_) rfl (by kernel_rfl) (by kernel_rfl) (by kernel_rfl) (fun _ _ _ h => h) (Or.inl ⟨by kernel_rfl, ?_⟩) (HS.out _ (Below.refl _ _).drew) ?_
          rotate_left
          · (rintro w ⟨a0, a1, a2, a3, a4, a5, a6, a7⟩; go_simp; (first | done | rfl))
          try simp only [Act.put, List.getElem_toArray, List.getElem_cons_zero, List.getElem_cons_succ, List.setIfInBounds_toArray, List.set_cons_zero, List.set_cons_succ]
          refine wpAnyH_take (i := 5) (oi := _) (v := ?_) rfl (by kernel_rfl) (by kernel_rfl) (by kernel_rfl) (fun _ _ _ h => h) (Or.inl ⟨by kernel_rfl, ?_⟩) (HS.out _ (Below.refl _ _).drew) ?_
          rotate_left
          · (rintro w ⟨a0, a1, a2, a3, a4, a5, a6, a7⟩; go_simp; (first | done | rfl))
          try simp only [Act.put, List.getElem_toArray, List.getElem_cons_zero, List.getElem_cons_succ, List.setIfInBounds_toArray, List.set_cons_zero, List.set_cons_succ]
          refine wpAnyH_take (i := 6) (oi := _) (v := ?_) rfl (by kernel_rfl) (by kernel_rfl) (by kernel_rfl) (fun _ _ _ h => h) (Or.inl ⟨by kernel_rfl, ?_⟩) (HS.out _ (Below.refl _ _).drew) ?_
          rotate_left
          · (rintro w ⟨a0, a1, a2, a3, a4, a5, a6, a7⟩; go_simp; (first | done | rfl))
          try simp only [Act.put, List.getElem_toArray, List.getElem_cons_zero, List.getElem_cons_succ, List.setIfInBounds_toArray, List.set_cons_zero, List.set_cons_succ]
          refine wpAnyH_take (i := 7) (oi := _) (v := ?_) rfl (by kernel_rfl) (by kernel_rfl) (by kernel_rfl) (fun _ _ _ h => h) (Or.inl ⟨by kernel_rfl, ?_⟩) (HS.out _ (Below.refl _ _).drew) ?_
          rotate_left
          · (rintro w ⟨a0, a1, a2, a3, a4, a5, a6, a7⟩; go_simp; (first | done | rfl))
          try simp only [Act.put, List.getElem_toArray, List.getElem_cons_zero, List.getElem_cons_succ, List.setIfInBounds_toArray, List.set_cons_zero, List.set_cons_succ]
          refine wpAnyH_take (i := 8) (oi := _) (v := ?_) rfl (by kernel_rfl) (by kernel_rfl) (by kernel_rfl) (fun _ _ _ h => h) (Or.inl ⟨by kernel_rfl, ?_⟩) (HS.out _ (Below.refl _ _).drew) ?_
          rotate_left
          · (rintro w ⟨a0, a1, a2, a3, a4, a5, a6, a7⟩; go_simp; (first | done | rfl))
          try simp only [Act.put, List.getElem_toArray, List.getElem_cons_zero, List.getElem_cons_succ, List.setIfInBounds_toArray, List.set_cons_zero, List.set_cons_succ]
          refine wpAnyH_take (i := 9) (oi := _) (v := ?_) rfl (by kernel_rfl) (by kernel_rfl) (by kernel_rfl) (fun _ _ _ h => h) (Or.inl ⟨by kernel_rfl, ?_⟩) (HS.out _ (Below.refl _ _).drew) ?_
          rotate_left
          · (rintro w ⟨a0, a1, a2, a3, a4, a5, a6, a7⟩; go_simp; (first | done | rfl))
          try simp only [Act.put, List.getElem_toArray, List.getElem_cons_zero, List.getElem_cons_succ, List.setIfInBounds_toArray, List.set_cons_zero, List.set_cons_succ]
          refine wpAnyH_take (i := 10) (oi := _) (v := ?_) rfl (by kernel_rfl) (by kernel_rfl) (by kernel_rfl) (fun _ _ _ h => h) (Or.inl ⟨by kernel_rfl, ?_⟩) (HS.out _ (Below.refl _ _).drew) ?_
          rotate_left
          · (rintro w ⟨a0, a1, a2, a3, a4, a5, a6, a7⟩; go_simp; (first | done | rfl))
          try simp only [Act.put, List.getElem_toArray, List.getElem_cons_zero, List.getElem_cons_succ, List.setIfInBounds_toArray, List.set_cons_zero, List.set_cons_succ]
          refine wpAnyH_take (i := 11) (oi := _) (v := ?_) rfl (by kernel_rfl) (by kernel_rfl) (by kernel_rfl) (fun _ _ _ h => h) (Or.inl ⟨by kernel_rfl, ?_⟩) (HS.out _ (Below.refl _ _).drew) ?_
          rotate_left
          · (rintro w ⟨a0, a1, a2, a3, a4, a5, a6, a7⟩; go_simp; (first | done | rfl))
          try simp only [Act.put, List.getElem_toArray, List.getElem_cons_zero, List.getElem_cons_succ, List.setIfInBounds_toArray, List.set_cons_zero, List.set_cons_succ]
          refine wpAnyH_take (i := 12) (oi := _) (v := ?_) rfl (by kernel_rfl) (by kernel_rfl) (by kernel_rfl) (fun _ _ _ h => h) (Or.inl ⟨by kernel_rfl, ?_⟩) (HS.out _ (Below.refl _ _).drew) ?_
          rotate_left
          · (rintro w ⟨a0, a1, a2, a3, a4, a5, a6, a7⟩; go_simp; (first | done | rfl))
          try simp only [Act.put, List.getElem_toArray, List.getElem_cons_zero, List.getElem_cons_succ, List.setIfInBounds_toArray, List.set_cons_zero, List.set_cons_succ]
          refine wpAnyH_take (i := 13) (oi := _) (v := ?_) rfl (by kernel_rfl) (by kernel_rfl) (by kernel_rfl) (fun _ _ _ h => h) (Or.inl ⟨by kernel_rfl, ?_⟩) (HS.out _ (Below.refl _ _).drew) ?_
          rotate_left
          · (rintro w ⟨a0, a1, a2, a3, a4, a5, a6, a7⟩; go_simp; (first | done | rfl))
          try simp only [Act.put, List.getElem_toArray, List.getElem_cons_zero, List.getElem_cons_succ, List.setIfInBounds_toArray, List.set_cons_zero, List.set_cons_succ]
          refine wpAnyH_take (i := 14) (oi := _) (v := ?_) rfl (by kernel_rfl) (by kernel_rfl) (by kernel_rfl) (fun _ _ _ h => h) (Or.inl ⟨by kernel_rfl, ?_⟩) (HS.out _ (Below.refl _ _).drew) ?_
          rotate_left
          · (rintro w ⟨a0, a1, a2, a3, a4, a5, a6, a7⟩; go_simp; (first | done | rfl))
          try simp only [Act.put, List.getElem_toArray, List.getElem_cons_zero, List.getElem_cons_succ, List.setIfInBounds_toArray, List.set_cons_zero, List.set_cons_succ]
          refine wpAnyH_take (i := 15) (oi := _) (v := ?_) rfl (by kernel_rfl) (by kernel_rfl) (by kernel_rfl) (fun _ _ _ h => h) (Or.inl ⟨by kernel_rfl, ?_⟩) (HS.out _ (Below.refl _ _).drew) ?_
          rotate_left
          · (rintro w ⟨a0, a1, a2, a3, a4, a5, a6, a7⟩; go_simp; (first | done | rfl))
          try simp only [Act.put, List.getElem_toArray, List.getElem_cons_zero, List.getElem_cons_succ, List.setIfInBounds_toArray, List.set_cons_zero, List.set_cons_succ]
          refine wpAnyH_take (i := 16) (oi := _) (v := ?_) rfl (by kernel_rfl) (by kernel_rfl) (by kernel_rfl) (fun _ _ _ h => h) (Or.inl ⟨by kernel_rfl, ?_⟩) (HS.out _ (Below.refl _ _).drew) ?_
          rotate_left
          · (rintro w ⟨a0, a1, a2, a3, a4, a5, a6, a7⟩; go_simp; (first | done | rfl))
          try simp only [Act.put, List.getElem_toArray, List.getElem_cons_zero, List.getElem_cons_succ, List.setIfInBounds_toArray, List.set_cons_zero, List.set_cons_succ]
          refine wpAnyH_take (i := 17) (oi := _) (v := ?_) rfl (by kernel_rfl) (by kernel_rfl) (by kernel_rfl) (fun _ _ _ h => h) (Or.inl ⟨by kernel_rfl, ?_⟩) (HS.out _ (Below.refl _ _).drew) ?_
          rotate_left
          · (rintro w ⟨a0, a1, a2, a3, a4, a5, a6, a7⟩; go_simp; (first | done | rfl))
          try simp only [Act.put, List.getElem_toArray, List.getElem_cons_zero, List.getElem_cons_succ, List.setIfInBounds_toArray, List.set_cons_zero, List.set_cons_succ]
          refine wpAnyH_take (i := 18) (oi := _) (v := ?_) rfl (by kernel_rfl) (by kernel_rfl) (by kernel_rfl) (fun _ _ _ h => h) (Or.inl ⟨by kernel_rfl, ?_⟩) (HS.out _ (Below.refl _ _).drew) ?_
          rotate_left
          · (rintro w ⟨a0, a1, a2, a3, a4, a5, a6, a7⟩; go_simp; (first | done | rfl))
          try simp only [Act.put, List.getElem_toArray, List.getElem_cons_zero, List.getElem_cons_succ, List.setIfInBounds_toArray, List.set_cons_zero, List.set_cons_succ]
          refine wpAnyH_take (i := 19) (oi := _) (v := ?_) rfl (by kernel_rfl) (by kernel_rfl) (by kernel_rfl) (fun _ _ _ h => h) (Or.inl ⟨by kernel_rfl, ?_⟩) (HS.out _ (Below.refl _ _).drew) ?_
          rotate_left
          · (rintro w ⟨a0, a1, a2, a3, a4, a5, a6, a7⟩; go_simp; (first | done | rfl))
          try simp only [Act.put, List.getElem_toArray, List.getElem_cons_zero, List.getElem_cons_succ, List.setIfInBounds_toArray, List.set_cons_zero, List.set_cons_succ]
          refine wpAnyH_take (i := 20) (oi := _) (v := ?_) rfl (by kernel_rfl) (by kernel_rfl) (by kernel_rfl) (fun _ _ _ h => h) (Or.inl ⟨by kernel_rfl, ?_⟩) (HS.out _ (Below.refl _ _).drew) ?_
          rotate_left
          · (rintro w ⟨a0, a1, a2, a3, a4, a5, a6, a7⟩; go_simp; (first | done | rfl))
          try simp only [Act.put, List.getElem_toArray, List.getElem_cons_zero, List.getElem_cons_succ, List.setIfInBounds_toArray, List.set_cons_zero, List.set_cons_succ]
          refine wpAnyH_take (i := 21) (oi := _) (v := ?_) rfl (by kernel_rfl) (by kernel_rfl) (by kernel_rfl) (fun _ _ _ h => h) (Or.inl ⟨by kernel_rfl, ?_⟩) (HS.out _ (Below.refl _ _).drew) ?_
          rotate_left
          · (rintro w ⟨a0, a1, a2, a3, a4, a5, a6, a7⟩; go_simp; (first | done | rfl))
          try simp only [Act.put, List.getElem_toArray, List.getElem_cons_zero, List.getElem_cons_succ, List.setIfInBounds_toArray, List.set_cons_zero, List.set_cons_succ]
          refine wpAnyH_take (i := 22) (oi := _) (v := ?_) rfl (by kernel_rfl) (by kernel_rfl) (by kernel_rfl) (fun _ _ _ h => h) (Or.inl ⟨by kernel_rfl, ?_⟩) (HS.out _ (Below.refl _ _).drew) ?_
          rotate_left
          · (rintro w ⟨a0, a1, a2, a3, a4, a5, a6, a7⟩; go_simp; (first | done | rfl))
          try simp only [Act.put, List.getElem_toArray, List.getElem_cons_zero, List.getElem_cons_succ, List.setIfInBounds_toArray, List.set_cons_zero, List.set_cons_succ]
          refine wpAnyH_take (i := 23) (oi := _) (v := ?_) rfl (by kernel_rfl) (by kernel_rfl) (by kernel_rfl) (fun _ _ _ h => h) (Or.inl ⟨by kernel_rfl, ?_⟩) (HS.out _ (Below.refl _ _).drew) ?_
          rotate_left
          · (rintro w ⟨a0, a1, a2, a3, a4, a5, a6, a7⟩; go_simp; (first | done | rfl))
          try simp only [Act.put, List.getElem_toArray, List.getElem_cons_zero, List.getElem_cons_succ, List.setIfInBounds_toArray, List.set_cons_zero, List.set_cons_succ]
          refine wpAnyH_take (i := 24) (oi := _) (v := ?_) rfl (by kernel_rfl) (by kernel_rfl) (by kernel_rfl) (fun _ _ _ h => h) (Or.inl ⟨by kernel_rfl, ?_⟩) (HS.out _ (Below.refl _ _).drew) ?_
          rotate_left
          · (rintro w ⟨a0, a1, a2, a3, a4, a5, a6, a7⟩; go_simp; (first | done | rfl))
          try simp only [Act.put, List.getElem_toArray, List.getElem_cons_zero, List.getElem_cons_succ, List.setIfInBounds_toArray, List.set_cons_zero, List.set_cons_succ]
          refine wpAnyH_take (i := 25) (oi := _) (v := ?_) rfl (by kernel_rfl) (by kernel_rfl) (by kernel_rfl) (fun _ _ _ h => h) (Or.inl ⟨by kernel_rfl, ?_⟩) (HS.out _ (Below.refl _ _).drew) ?_
          rotate_left
          · (rintro w ⟨a0, a1, a2, a3, a4, a5, a6, a7⟩; go_simp; (first | done | rfl))
          try simp only [Act.put, List.getElem_toArray, List.getElem_cons_zero, List.getElem_cons_succ, List.setIfInBounds_toArray, List.set_cons_zero, List.set_cons_succ]
          refine wpAnyH_take (i := 26) (oi := _) (v := ?_) rfl (by kernel_rfl) (by kernel_rfl) (by kernel_rfl) (fun _ _ _ h => h) (Or.inl ⟨by kernel_rfl, ?_⟩) (HS.out _ (Below.refl _ _).drew) ?_
          rotate_left
          · (rintro w ⟨a0, a1, a2, a3, a4, a5, a6, a7⟩; go_simp; (first | done | rfl))
          try simp only [Act.put, List.getElem_toArray, List.getElem_cons_zero, List.getElem_cons_succ, List.setIfInBounds_toArray, List.set_cons_zero, List.set_cons_succ]
          refine wpAnyH_take (i := 27) (oi := _) (v := ?_) rfl (by kernel_rfl) (by kernel_rfl) (by kernel_rfl) (fun _ _ _ h => h) (Or.inl ⟨by kernel_rfl, ?_⟩) (HS.out _ (Below.refl _ _).drew) ?_
          rotate_left
          · (rintro w ⟨a0, a1, a2, a3, a4, a5, a6, a7⟩; go_simp; (first | done | rfl))
          try simp only [Act.put, List.getElem_toArray, List.getElem_cons_zero, List.getElem_cons_succ, List.setIfInBounds_toArray, List.set_cons_zero, List.set_cons_succ]
          refine wpAnyH_take (i := 28) (oi := _) (v := ?_) rfl (by kernel_rfl) (by kernel_rfl) (by kernel_rfl) (fun _ _ _ h => h) (Or.inl ⟨by kernel_rfl, ?_⟩) (HS.out _ (Below.refl _ _).drew) ?_
          rotate_left
          · (rintro w ⟨a0, a1, a2, a3, a4, a5, a6, a7⟩; go_simp; (first | done | rfl))
          try simp only [Act.put, List.getElem_toArray, List.getElem_cons_zero, List.getElem_cons_succ, List.setIfInBounds_toArray, List.set_cons_zero, List.set_cons_succ]
          refine wpAnyH_take (i := 29) (oi := _) (v := ?_) rfl (by kernel_rfl) (by kernel_rfl) (by kernel_rfl) (fun _ _ _ h => h) (Or.inl ⟨by kernel_rfl, ?_⟩) (HS.out _ (Below.refl _ _).drew) ?_
          rotate_left
          · (rintro w ⟨a0, a1, a2, a3, a4, a5, a6, a7⟩; go_simp; (first | done | rfl))
          try simp only [Act.put, List.getElem_toArray, List.getElem_cons_zero, List.getElem_cons_succ, List.setIfInBounds_toArray, List.set_cons_zero, List.set_cons_succ]
          refine wpAnyH_take (i := 30) (oi := _) (v := ?_) rfl (by kernel_rfl) (by kernel_rfl) (by kernel_rfl) (fun _ _ _ h => h) (Or.inl ⟨by kernel_rfl, ?_⟩) (HS.out _ (Below.refl _ _).drew) ?_
          rotate_left
          · (rintro w ⟨a0, a1, a2, a3, a4, a5, a6, a7⟩; go_simp; (first | done | rfl))
          try simp only [Act.put, List.getElem_toArray, List.getElem_cons_zero, List.getElem_cons_succ, List.setIfInBounds_toArray, List.set_cons_zero, List.set_cons_succ]
          refine wpAnyH_take (i := 31) (oi := _) (v := ?_) rfl (by kernel_rfl) (by kernel_rfl) (by kernel_rfl) (fun _ _ _ h => h) (Or.inl ⟨by kernel_rfl, ?_⟩) (HS.out _ (Below.refl _ _).drew) ?_
          rotate_left
          · (rintro w ⟨a0, a1, a2, a3, a4, a5, a6, a7⟩; go_simp; (first | done | rfl))
          try simp only [Act.put, List.getElem_toArray, List.getElem_cons_zero, List.getElem_cons_succ, List.setIfInBounds_toArray, List.set_cons_zero, List.set_cons_succ]
          refine wpAnyH_take (i := 32) (oi := _) (v := ?_) rfl (by kernel_rfl) (by kernel_rfl) (by kernel_rfl) (fun _ _ _ h => h) (Or.inl ⟨by kernel_rfl, ?_⟩) (HS.out _ (Below.refl _ _).drew) ?_
          rotate_left
          · (rintro w ⟨a0, a1, a2, a3, a4, a5, a6, a7⟩; go_simp; (first | done | rfl))
          try simp only [Act.put, List.getElem_toArray, List.getElem_cons_zero, List.getElem_cons_succ, List.setIfInBounds_toArray, List.set_cons_zero, List.set_cons_succ]
          refine wpAnyH_take (i := 33) (oi := _) (v := ?_) rfl (by kernel_rfl) (by kernel_rfl) (by kernel_rfl) (fun _ _ _ h => h) (Or.inl ⟨by kernel_rfl, ?_⟩) (HS.out _ (Below.refl _ _).drew) ?_
          rotate_left
          · (rintro w ⟨a0, a1, a2, a3, a4, a5, a6, a7⟩; go_simp; (first | done | rfl))
          try simp only [Act.put, List.getElem_toArray, List.getElem_cons_zero, List.getElem_cons_succ, List.setIfInBounds_toArray, List.set_cons_zero, List.set_cons_succ]
          refine wpAnyH_take (i := 34) (oi := _) (v := ?_) rfl (by kernel_rfl) (by kernel_rfl) (by kernel_rfl) (fun _ _ _ h => h) (Or.inl ⟨by kernel_rfl, ?_⟩) (HS.out _ (Below.refl _ _).drew) ?_
          rotate_left
          · (rintro w ⟨a0, a1, a2, a3, a4, a5, a6, a7⟩; go_simp; (first | done | rfl))
          try simp only [Act.put, List.getElem_toArray, List.getElem_cons_zero, List.getElem_cons_succ, List.setIfInBounds_toArray, List.set_cons_zero, List.set_cons_succ]
          refine wpAnyH_take (i := 35) (oi := _) (v := ?_) rfl (by kernel_rfl) (by kernel_rfl) (by kernel_rfl) (fun _ _ _ h => h) (Or.inl ⟨by kernel_rfl, ?_⟩) (HS.out _ (Below.refl _ _).drew) ?_
          rotate_left
          · (rintro w ⟨a0, a1, a2, a3, a4, a5, a6, a7⟩; go_simp; (first | done | rfl))
          try simp only [Act.put, List.getElem_toArray, List.getElem_cons_zero, List.getElem_cons_succ, List.setIfInBounds_toArray, List.set_cons_zero, List.set_cons_succ]
          refine wpAnyH_take (i := 36) (oi := _) (v := ?_) rfl (by kernel_rfl) (by kernel_rfl) (by kernel_rfl) (fun _ _ _ h => h) (Or.inl ⟨by kernel_rfl, ?_⟩) (HS.out _ (Below.refl _ _).drew) ?_
          rotate_left
          · (rintro w ⟨a0, a1, a2, a3, a4, a5, a6, a7⟩; go_simp; (first | done | rfl))
          try simp only [Act.put, List.getElem_toArray, List.getElem_cons_zero, List.getElem_cons_succ, List.setIfInBounds_toArray, List.set_cons_zero, List.set_cons_succ]
          refine wpAnyH_take (i := 37) (oi := _) (v := ?_) rfl (by kernel_rfl) (by kernel_rfl) (by kernel_rfl) (fun _ _ _ h => h) (Or.inl ⟨by kernel_rfl, ?_⟩) (HS.out _ (Below.refl _ _).drew) ?_
          rotate_left
          · (rintro w ⟨a0, a1, a2, a3, a4, a5, a6, a7⟩; go_simp; (first | done | rfl))
          try simp only [Act.put, List.getElem_toArray, List.getElem_cons_zero, List.getElem_cons_succ, List.setIfInBounds_toArray, List.set_cons_zero, List.set_cons_succ]
          refine wpAnyH_take (i := 38) (oi := _) (v := ?_) rfl (by kernel_rfl) (by kernel_rfl) (by kernel_rfl) (fun _ _ _ h => h) (Or.inl ⟨by kernel_rfl, ?_⟩) (HS.out _ (Below.refl _ _).drew) ?_
          rotate_left
          · (rintro w ⟨a0, a1, a2, a3, a4, a5, a6, a7⟩; go_simp; (first | done | rfl))
          try simp only [Act.put, List.getElem_toArray, List.getElem_cons_zero, List.getElem_cons_succ, List.setIfInBounds_toArray, List.set_cons_zero, List.set_cons_succ]
          refine wpAnyH_take (i := 39) (oi := _) (v := ?_) rfl (by kernel_rfl) (by kernel_rfl) (by kernel_rfl) (fun _ _ _ h => h) (Or.inl ⟨by kernel_rfl, ?_⟩) (HS.out _ (Below.refl _ _).drew) ?_
          rotate_left
          · (rintro w ⟨a0, a1, a2, a3, a4, a5, a6, a7⟩; go_simp; (first | done | rfl))
          try simp only [Act.put, List.getElem_toArray, List.getElem_cons_zero, List.getElem_cons_succ, List.setIfInBounds_toArray, List.set_cons_zero, List.set_cons_succ]
          refine wpAnyH_take (i := 40) (oi := _) (v := ?_) rfl (by kernel_rfl) (by kernel_rfl) (by kernel_rfl) (fun _ _ _ h => h) (Or.inl ⟨by kernel_rfl, ?_⟩) (HS.out _ (Below.refl _ _).drew) ?_
          rotate_left
          · (rintro w ⟨a0, a1, a2, a3, a4, a5, a6, a7⟩; go_simp; (first | done | rfl))
          try simp only [Act.put, List.getElem_toArray, List.getElem_cons_zero, List.getElem_cons_succ, List.setIfInBounds_toArray, List.set_cons_zero, List.set_cons_succ]
          refine wpAnyH_take (i := 41) (oi := _) (v := ?_) rfl (by kernel_rfl) (by kernel_rfl) (by kernel_rfl) (fun _ _ _ h => h) (Or.inl ⟨by kernel_rfl, ?_⟩) (HS.out _ (Below.refl _ _).drew) ?_
          rotate_left
          · (rintro w ⟨a0, a1, a2, a3, a4, a5, a6, a7⟩; go_simp; (first | done | rfl))
          try simp only [Act.put, List.getElem_toArray, List.getElem_cons_zero, List.getElem_cons_succ, List.setIfInBounds_toArray, List.set_cons_zero, List.set_cons_succ]
          refine wpAnyH_take (i := 42) (oi := _) (v := ?_) rfl (by kernel_rfl) (by kernel_rfl) (by kernel_rfl) (fun _ _ _ h => h) (Or.inl ⟨by kernel_rfl, ?_⟩) (HS.out _ (Below.refl _ _).drew) ?_
          rotate_left
          · (rintro w ⟨a0, a1, a2, a3, a4, a5, a6, a7⟩; go_simp; (first | done | rfl))
          try simp only [Act.put, List.getElem_toArray, List.getElem_cons_zero, List.getElem_cons_succ, List.setIfInBounds_toArray, List.set_cons_zero, List.set_cons_succ]
          refine wpAnyH_take (i := 43) (oi := _) (v := ?_) rfl (by kernel_rfl) (by kernel_rfl) (by kernel_rfl) (fun _ _ _ h => h) (Or.inl ⟨by kernel_rfl, ?_⟩) (HS.out _ (Below.refl _ _).drew) ?_
          rotate_left
          · (rintro w ⟨a0, a1, a2, a3, a4, a5, a6, a7⟩; go_simp; (first | done | rfl))
          try simp only [Act.put, List.getElem_toArray, List.getElem_cons_zero, List.getElem_cons_succ, List.setIfInBounds_toArray, List.set_cons_zero, List.set_cons_succ]
          refine wpAnyH_ready (rs := [44]) (by kernel_rfl) (by simp) (AllReadyH.cons (o := _) rfl (fun K hK => ?_) AllReadyH.nil)
          rw [if_pos (by kernel_rfl)]
          refine wp_fn 31 _ _ rfl _ rfl enters_N (rnodeAt_ _ m (some ⟨b, u, none⟩) k c (hm5.drewN 1) hr f hf0 hfn) ?_
          rw [HN.out]
          rintro e w6 ⟨rfl, hc6⟩
          have hb56 : Below w5.heap.size w5 w6 := below_step (Below.refl w5.heap.size w5).drew hc6 (Nat.le_refl _)
          have hB6 := below_step hB5 hb56 (Nat.le_refl _)
          refine ⟨_, rfl, ?_⟩
          refine hK.out _ _ (HS.out _ hb56) (fun _ => ?_)
          clear hK K
          try simp only [Act.put, List.getElem_toArray, List.getElem_cons_zero, List.getElem_cons_succ, List.setIfInBounds_toArray, List.set_cons_zero, List.set_cons_succ]
          refine wpAnyH_take (i := 45) (oi := _) (v := ?_) rfl (by kernel_rfl) (by kernel_rfl) (by kernel_rfl) (fun _ _ _ h => h) (Or.inl ⟨by kernel_rfl, ?_⟩) (HS.out _ hb56) ?_
          rotate_left
          · (rintro w ⟨a0, a1, a2, a3, a4, a5, a6, a7⟩; go_simp; (first | done | rfl))
          try simp only [Act.put, List.getElem_toArray, List.getElem_cons_zero, List.getElem_cons_succ, List.setIfInBounds_toArray, List.set_cons_zero, List.set_cons_succ]
          refine wpAnyH_take (i := 46) (oi := _) (v := ?_) rfl (by kernel_rfl) (by kernel_rfl) (by kernel_rfl) (fun _ _ _ h => h) (Or.inl ⟨by kernel_rfl, ?_⟩) (HS.out _ hb56) ?_
          rotate_left
          · (rintro w ⟨a0, a1, a2, a3, a4, a5, a6, a7⟩; go_simp; (first | done | rfl))
          try simp only [Act.put, List.getElem_toArray, List.getElem_cons_zero, List.getElem_cons_succ, List.setIfInBounds_toArray, List.set_cons_zero, List.set_cons_succ]
          refine wpAnyH_take (i := 47) (oi := _) (v := ?_) rfl (by kernel_rfl) (by kernel_rfl) (by kernel_rfl) (fun _ _ _ h => h) (Or.inl ⟨by kernel_rfl, ?_⟩) (HS.out _ hb56) ?_
          rotate_left
          · (rintro w ⟨a0, a1, a2, a3, a4, a5, a6, a7⟩; go_simp; (first | done | rfl))
          try simp only [Act.put, List.getElem_toArray, List.getElem_cons_zero, List.getElem_cons_succ, List.setIfInBounds_toArray, List.set_cons_zero, List.set_cons_succ]
          refine wpAnyH_take (i := 48) (oi := _) (v := ?_) rfl (by kernel_rfl) (by kernel_rfl) (by kernel_rfl) (fun _ _ _ h => h) (Or.inl ⟨by kernel_rfl, ?_⟩) (HS.out _ hb56) ?_
          rotate_left
          · (rintro w ⟨a0, a1, a2, a3, a4, a5, a6, a7⟩; go_simp; (first | done | rfl))
          try simp only [Act.put, List.getElem_toArray, List.getElem_cons_zero, List.getElem_cons_succ, List.setIfInBounds_toArray, List.set_cons_zero, List.set_cons_succ]
          refine wpAnyH_take (i := 49) (oi := _) (v := ?_) rfl (by kernel_rfl) (by kernel_rfl) (by kernel_rfl) (fun _ _ _ h => h) (Or.inl ⟨by kernel_rfl, ?_⟩) (HS.out _ hb56) ?_
          rotate_left
          · (rintro w ⟨a0, a1, a2, a3, a4, a5, a6, a7⟩; go_simp; (first | done | rfl))
          try simp only [Act.put, List.getElem_toArray, List.getElem_cons_zero, List.getElem_cons_succ, List.setIfInBounds_toArray, List.set_cons_zero, List.set_cons_succ]
          refine wpAnyH_take (i := 50) (oi := _) (v := ?_) rfl (by kernel_rfl) (by kernel_rfl) (by kernel_rfl) (fun _ _ _ h => h) (Or.inl ⟨by kernel_rfl, ?_⟩) (HS.out _ hb56) ?_
          rotate_left
          · (rintro w ⟨a0, a1, a2, a3, a4, a5, a6, a7⟩; go_simp; (first | done | rfl))
          try simp only [Act.put, List.getElem_toArray, List.getElem_cons_zero, List.getElem_cons_succ, List.setIfInBounds_toArray, List.set_cons_zero, List.set_cons_succ]
          refine wpAnyH_take (i := 51) (oi := _) (v := ?_) rfl (by kernel_rfl) (by kernel_rfl) (by kernel_rfl) (fun _ _ _ h => h) (Or.inl ⟨by kernel_rfl, ?_⟩) (HS.out _ hb56) ?_
          rotate_left
          · (rintro w ⟨a0, a1, a2, a3, a4, a5, a6, a7⟩; go_simp; (first | done | rfl))
          try simp only [Act.put, List.getElem_toArray, List.getElem_cons_zero, List.getElem_cons_succ, List.setIfInBounds_toArray, List.set_cons_zero, List.set_cons_succ]
          refine wpAnyH_take (i := 52) (oi := _) (v := ?_) rfl (by kernel_rfl) (by kernel_rfl) (by kernel_rfl) (fun _ _ _ h => h) (Or.inl ⟨by kernel_rfl, ?_⟩) (HS.out _ hb56) ?_
          rotate_left
          · (rintro w ⟨a0, a1, a2, a3, a4, a5, a6, a7⟩; go_simp; (first | done | rfl))
          try simp only [Act.put, List.getElem_toArray, List.getElem_cons_zero, List.getElem_cons_succ, List.setIfInBounds_toArray, List.set_cons_zero, List.set_cons_succ]
          refine wpAnyH_take (i := 53) (oi := _) (v := ?_) rfl (by kernel_rfl) (by kernel_rfl) (by kernel_rfl) (fun _ _ _ h => h) (Or.inl ⟨by kernel_rfl, ?_⟩) (HS.out _ hb56) ?_
          rotate_left
          · (rintro w ⟨a0, a1, a2, a3, a4, a5, a6, a7⟩; go_simp; (first | done | rfl))
          try simp only [Act.put, List.getElem_toArray, List.getElem_cons_zero, List.getElem_cons_succ, List.setIfInBounds_toArray, List.set_cons_zero, List.set_cons_succ]
          refine wpAnyH_take (i := 54) (oi := _) (v := ?_) rfl (by kernel_rfl) (by kernel_rfl) (by kernel_rfl) (fun _ _ _ h => h) (Or.inl ⟨by kernel_rfl, ?_⟩) (HS.out _ hb56) ?_
          rotate_left
          · (rintro w ⟨a0, a1, a2, a3, a4, a5, a6, a7⟩; go_simp; (first | done | rfl))
          try simp only [Act.put, List.getElem_toArray, List.getElem_cons_zero, List.getElem_cons_succ, List.setIfInBounds_toArray, List.set_cons_zero, List.set_cons_succ]
          refine wpAnyH_take (i := 55) (oi := _) (v := ?_) rfl (by kernel_rfl) (by kernel_rfl) (by kernel_rfl) (fun _ _ _ h => h) (Or.inl ⟨by kernel_rfl, ?_⟩) (HS.out _ hb56) ?_
          rotate_left
          · (rintro w ⟨a0, a1, a2, a3, a4, a5, a6, a7⟩; go_simp; (first | done | rfl))
          try simp only [Act.put, List.getElem_toArray, List.getElem_cons_zero, List.getElem_cons_succ, List.setIfInBounds_toArray, List.set_cons_zero, List.set_cons_succ]
          refine wpAnyH_take (i := 56) (oi := _) (v := ?_) rfl (by kernel_rfl) (by kernel_rfl) (by kernel_rfl) (fun _ _ _ h => h) (Or.inl ⟨by kernel_rfl, ?_⟩) (HS.out _ hb56) ?_
          rotate_left
          · (rintro w ⟨a0, a1, a2, a3, a4, a5, a6, a7⟩; go_simp; (first | done | rfl))
          try simp only [Act.put, List.getElem_toArray, List.getElem_cons_zero, List.getElem_cons_succ, List.setIfInBounds_toArray, List.set_cons_zero, List.set_cons_succ]
          refine wpAnyH_take (i := 57) (oi := _) (v := ?_) rfl (by kernel_rfl) (by kernel_rfl) (by kernel_rfl) (fun _ _ _ h => h) (Or.inl ⟨by kernel_rfl, ?_⟩) (HS.out _ hb56) ?_
          rotate_left
          · (rintro w ⟨a0, a1, a2, a3, a4, a5, a6, a7⟩; go_simp; (first | done | rfl))
          try simp only [Act.put, List.getElem_toArray, List.getElem_cons_zero, List.getElem_cons_succ, List.setIfInBounds_toArray, List.set_cons_zero, List.set_cons_succ]
          refine wpAnyH_take (i := 58) (oi := _) (v := ?_) rfl (by kernel_rfl) (by kernel_rfl) (by kernel_rfl) (fun _ _ _ h => h) (Or.inl ⟨by kernel_rfl, ?_⟩) (HS.out _ hb56) ?_
          rotate_left
          · (rintro w ⟨a0, a1, a2, a3, a4, a5, a6, a7⟩; go_simp; (first | done | rfl))
          try simp only [Act.put, List.getElem_toArray, List.getElem_cons_zero, List.getElem_cons_succ, List.setIfInBounds_toArray, List.set_cons_zero, List.set_cons_succ]
          refine wpAnyH_take (i := 59) (oi := _) (v := ?_) rfl (by kernel_rfl) (by kernel_rfl) (by kernel_rfl) (fun _ _ _ h => h) (Or.inl ⟨by kernel_rfl, ?_⟩) (HS.out _ hb56) ?_
          rotate_left
          · (rintro w ⟨a0, a1, a2, a3, a4, a5, a6, a7⟩; go_simp; (first | done | rfl))
          try simp only [Act.put, List.getElem_toArray, List.getElem_cons_zero, List.getElem_cons_succ, List.setIfInBounds_toArray, List.set_cons_zero, List.set_cons_succ]
          refine wpAnyH_take (i := 60) (oi := _) (v := ?_) rfl (by kernel_rfl) (by kernel_rfl) (by kernel_rfl) (fun _ _ _ h => h) (Or.inl ⟨by kernel_rfl, ?_⟩) (HS.out _ hb56) ?_
          rotate_left
          · (rintro w ⟨a0, a1, a2, a3, a4, a5, a6, a7⟩; go_simp; (first | done | rfl))
          try simp only [Act.put, List.getElem_toArray, List.getElem_cons_zero, List.getElem_cons_succ, List.setIfInBounds_toArray, List.set_cons_zero, List.set_cons_succ]
          refine wpAnyH_take (i := 61) (oi := _) (v := ?_) rfl (by kernel_rfl) (by kernel_rfl) (by kernel_rfl) (fun _ _ _ h => h) (Or.inl ⟨by kernel_rfl, ?_⟩) (HS.out _ hb56) ?_
          rotate_left
          · (rintro w ⟨a0, a1, a2, a3, a4, a5, a6, a7⟩; go_simp; (first | done | rfl))
          try simp only [Act.put, List.getElem_toArray, List.getElem_cons_zero, List.getElem_cons_succ, List.setIfInBounds_toArray, List.set_cons_zero, List.set_cons_succ]
          refine wpAnyH_done (by kernel_rfl) ?_ _
          refine NoPanic.normal ?_
          go_wp2
          go_roundw
          case rel => exact ⟨j + 1, by omega, by go_num, hB6⟩
          case measure => simp [intOf]; omega
      · have hin : (n3 : Int) ≤ (j : Int) := by omega
        have hB8 := below_step hB3 hb (Nat.le_refl _)
        clear hp hm3 hb
        go_wp2_with fail
        refine (alive_ _).mono ?_
        rintro e w6 ⟨rfl, hc6⟩
        go_wp2
        go_ret
        exact ⟨rfl, below_step hB8 hc6 (Nat.le_refl _)⟩
  · have t1 : (E != 0) = true := by simpa using hE0
    clear hE0 hp HL3 hm3
    go_wp2_with fail
    refine (alive_ _).mono ?_
    rintro e w6 ⟨rfl, hc6⟩
    go_wp2
    go_ret
    exact ⟨rfl, below_step hB3 hc6 (Nat.le_refl _)⟩
end
end Pla
open Pla

set_option maxRecDepth 100000 in
theorem planPieces_lifted (os : Os) (started : os.Started) (H : Type) (enc : TypeId × Value → H) :
    ReturnsInHanded {} Try.checked os 7 .any (Rows.planPiecesSpec.pre6 enc Try.prog Try.f7 Rows.planPiecesRow.domain false) (Rows.planPiecesSpec.post enc Try.prog Try.f7 false true false false) := by
  refine law_lifted (C := Try.checked) (tb := 4) own_ started (by kernel_rfl) Try.func7
    (ChangeSpec.witness6 (enc := enc) (C := Try.checked) false ⟨#[], #[.agg #[.int .i64 0, .int .i64 0, .slice none 0 0], .agg #[.int .i64 0, .int .i64 0, .int .i64 0, .slice none 0 0]], []⟩ 8 (by kernel_rfl) (by kernel_rfl) (by kernel_rfl) (by kernel_rfl))
    rfl rfl Try.underlying4 laidOut_ (by kernel_rfl) (fun ds h => by match ds, h with | [_, _], _ => rfl) ?_
  intro W base args ds p hval0 hA0 _ hsz0
  have hval : ∀ (j : Nat) t v, Try.f7.params[j]? = some t → args[j]? = some v → Value.okWide Try.prog W .any base t v := hval0
  have hA : DataW.TrodAll enc Try.prog W 0 (fun _ => true) true Try.f7.params.toList args.toList ds p := hA0
  have hsz : (DataW.weightsEach Try.prog Try.f7.params.toList ds).all (· ≤ reachBytes) = true := hsz0
  clear hval0 hA0 hsz0
  rw [Try.params7] at hA hval hsz
  obtain ⟨v0, v1, d0, d1, p0, p1, rfl, rfl, rfl, h0, h1⟩ := trodAll_two hA
  obtain ⟨cs0, a0, rfl, r0, b0⟩ := arg_struct Sma.ops_mp Try.underlying24 (hval 0 _ v0 rfl rfl) h0 (weight_at hsz (j := 0) rfl rfl)
  obtain ⟨cs1, a1, rfl, r1, b1⟩ := arg_struct Blo.ops_op Try.underlying27 (hval 1 _ v1 rfl rfl) h1 (weight_at hsz (j := 1) rfl rfl)
  exact by
    obtain ⟨A0, k0, c0, rfl, hm, hcb⟩ := Sma.mp_arr r0
    obtain ⟨X1, m1, c1, rfl, hd⟩ := Blo.op_arr r1
    exact pieces_walk W (Sma.toMp a0) A0 k0 c0 hm (Blo.toOp a1) X1 m1 c1 hd

/-- PlanPieces, for every input: the statement as it was given. -/
theorem planPieces_holds : Rows.PlanPiecesSaid :=
  OpenClaim.holds_of_wide 7 Try.f7 rfl rfl rfl rfl rfl rfl rfl ⟨rfl, rfl, rfl, rfl, rfl⟩ rfl rfl rfl rfl rfl (by kernel_rfl) Try.func7 (by kernel_rfl)
    (of_decide_eq_true (by kernel_rfl)) (by unfold Func.isWrapper; first | (rw [if_pos (by decide +kernel)]; kernel_rfl) | (rw [if_neg (by decide +kernel)]; exact ⟨rfl, rfl⟩))
    (fun os started H enc _ => planPieces_lifted os started H enc)
end Go.Proofs.Ytdcggnfplfgcnaa
