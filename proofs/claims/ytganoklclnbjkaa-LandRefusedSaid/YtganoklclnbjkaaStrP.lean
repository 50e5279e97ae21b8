/- Layer 10: a stream's order: op, ordered, rising. -/
import Derived.Test.YtganoklclnbjkaaStrK
import Derived.Test.YtganoklclnbjkaaBloB
set_option linter.all false
namespace Go.Proofs.Ytganoklclnbjkaa
open Go.RowKit
namespace Str
open Blo (I64)
theorem results_op10 {fn : Func} {W : World} {q k : Nat} {x y z d : Value} {tmps : Array Value} (h : fn.results = #[.cell k 67]) (h2 : tmps.getD k undef = .pointer (some ⟨q, 0, none⟩)) (hb : Blk W q 67 #[x, y, z, d]) :
    (results fn tmps).run Try.prog W = .ok (.agg #[x, y, z, d]) W := by
  have d0 := hb.cell (j := 0) rfl
  have d1 := hb.cell (j := 1) rfl
  have d2 := hb.cell (j := 2) rfl
  have d3 := hb.cell (j := 3) rfl
  have h2' : tmps[k]?.getD undef = .pointer (some ⟨q, 0, none⟩) := by simpa using h2
  simp [results, h, h2', go_sem, d0, d1, d2, d3]
abbrev oa (o : BOp) (d : Value) : Array Value := #[.int .i64 o.kind, .int .i64 o.off, .int .i64 o.len, d]
/-- The op of a record. -/
def opOf (r : Rec) : BOp := ⟨if r.k = 2 then 1 else if r.k = 3 then 2 else 0, r.off, r.len, r.d⟩
theorem opOf_dat {w : World} {r : Rec} {X : Option Addr} {m c : Nat} (h : Rdt w r X m c) : Blo.Dat w (opOf r) X m c :=
  ⟨h.ns, h.nil, h.le, h.cap, h.by8, ⟨by unfold opOf I64; dsimp only; split <;> (try split) <;> omega, h.fit.off, h.fit.len⟩⟩
section
variable (w : World)
set_option maxRecDepth 100000 in
set_option maxHeartbeats 2000000 in
theorem op_ (r : Rec) (X : Option Addr) (m c : Nat) : Calls Try.prog 50 #[.agg (ra r (.slice X m c))] w fun e w' => e = .returned (.agg (oa (opOf r) (.slice X m c))) ∧ Below w.heap.size w w' := by
  obtain ⟨w1, hw1⟩ : ∃ w1, w.alloc (.cells (ra r (.slice X m c)) 29) = w1 := ⟨_, rfl⟩
  have hs1 : w1.heap.size = w.heap.size + 1 := by rw [← hw1]; simp
  have hb1 : Below w.heap.size w w1 := by rw [← hw1]; exact (Below.refl _ _).alloc (Nat.le_refl _) _
  have hr1 : Blk w1 w.heap.size 29 (ra r (.slice X m c)) := by rw [← hw1]; exact Blk.new w _ _ rfl
  obtain ⟨w2, hw2⟩ : ∃ w2, w1.alloc (.cells #[.int .i64 0, .int .i64 0, .int .i64 0, .slice none 0 0] 67) = w2 := ⟨_, rfl⟩
  have hb2 : Below w.heap.size w w2 := by rw [← hw2]; exact hb1.alloc hb1.size _
  have hs2 : w2.heap.size = w.heap.size + 2 := by rw [← hw2]; simp [hs1]
  have hq2 : Blk w2 (w.heap.size + 1) 67 #[.int .i64 0, .int .i64 0, .int .i64 0, .slice none 0 0] := by rw [← hw2]; exact Blk.new w1 _ _ hs1.symm
  have hr2 : Blk w2 w.heap.size 29 (ra r (.slice X m c)) := by rw [← hw2]; exact hr1.alloc _
  obtain ⟨w3, hw3⟩ : ∃ w3, w2.alloc (.cells #[.int .i64 0, .int .i64 r.off, .int .i64 r.len, .slice X m c] 67) = w3 := ⟨_, rfl⟩
  have hb3 : Below w.heap.size w w3 := by rw [← hw3]; exact hb2.alloc hb2.size _
  have hq3 : Blk w3 (w.heap.size + 1) 67 #[.int .i64 0, .int .i64 0, .int .i64 0, .slice none 0 0] := by rw [← hw3]; exact hq2.alloc _
  have hr3 : Blk w3 w.heap.size 29 (ra r (.slice X m c)) := by rw [← hw3]; exact hr2.alloc _
  have hn3 : Blk w3 (w.heap.size + 2) 67 #[.int .i64 0, .int .i64 r.off, .int .i64 r.len, .slice X m c] := by rw [← hw3]; exact Blk.new w2 _ _ hs2.symm
  obtain ⟨c0, c1, c2, c3, c4, c5, c6, c7⟩ := k8 hr2
  have e0 := (k8 hr3).1
  have n0 := hn3.cell (j := 0) (u := .int .i64 0) rfl
  have n1 := hn3.cell (j := 1) (u := .int .i64 r.off) rfl
  have n2 := hn3.cell (j := 2) (u := .int .i64 r.len) rfl
  have n3 := hn3.cell (j := 3) (u := .slice X m c) rfl
  have q0 := hq3.cell (j := 0) (u := .int .i64 0) rfl
  have q1 := hq3.cell (j := 1) (u := .int .i64 0) rfl
  have q2 := hq3.cell (j := 2) (u := .int .i64 0) rfl
  have q3 := hq3.cell (j := 3) (u := .slice none 0 0) rfl
  have zn := hn3.free
  have zq := hq3.free
  have hsz := hb3.size
  by_cases h2 : r.k = 2
  · have HO := Lib.hid (show opOf r = ⟨1, r.off, r.len, r.d⟩ by unfold opOf; rw [if_pos h2])
    go_enter Try.func50, Try.ntmps50
    go_wp2
    refine bodyPost_ret (results_op10 rfl rfl (((((hq3.grown (grown_setCell w3 ⟨w.heap.size + 2, 0, none⟩ (.int .i64 1)) (by simp)).setCell 0 (.int .i64 1)).setCell 1 (.int .i64 r.off)).setCell 2 (.int .i64 r.len)).setCell 3 (.slice X m c))) rfl ?_
    rw [HO.out]
    exact ⟨rfl, ((((hb3.setCell (by simp) _).setCell (by simp) _).setCell (by simp) _).setCell (by simp) _).setCell (by simp) _⟩
  · by_cases h3 : r.k = 3
    · have HO := Lib.hid (show opOf r = ⟨2, r.off, r.len, r.d⟩ by unfold opOf; rw [if_neg h2, if_pos h3])
      go_enter Try.func50, Try.ntmps50
      go_wp2
      refine bodyPost_ret (results_op10 rfl rfl (((((hq3.grown (grown_setCell w3 ⟨w.heap.size + 2, 0, none⟩ (.int .i64 2)) (by simp)).setCell 0 (.int .i64 2)).setCell 1 (.int .i64 r.off)).setCell 2 (.int .i64 r.len)).setCell 3 (.slice X m c))) rfl ?_
      rw [HO.out]
      exact ⟨rfl, ((((hb3.setCell (by simp) _).setCell (by simp) _).setCell (by simp) _).setCell (by simp) _).setCell (by simp) _⟩
    · have HO := Lib.hid (show opOf r = ⟨0, r.off, r.len, r.d⟩ by unfold opOf; rw [if_neg h2, if_neg h3])
      go_enter Try.func50, Try.ntmps50
      go_wp2
      refine bodyPost_ret (results_op10 rfl rfl ((((hq3.setCell 0 (.int .i64 0)).setCell 1 (.int .i64 r.off)).setCell 2 (.int .i64 r.len)).setCell 3 (.slice X m c))) rfl ?_
      rw [HO.out]
      exact ⟨rfl, (((hb3.setCell (by simp) _).setCell (by simp) _).setCell (by simp) _).setCell (by simp) _⟩
end
end Str
end Go.Proofs.Ytganoklclnbjkaa
