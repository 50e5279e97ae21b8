/- Layer 17: an agent in memory: New, Order, Crash, Frozen, Prepared, Committed; of one that nobody made. -/
import Derived.Test.YtpjbeodnalgkfaaBarA
set_option linter.all false
namespace Go.Proofs.Ytpjbeodnalgkfaa
open Go.RowKit
namespace Bar
abbrev aga (g : Nat) (a : Ag) : Array Value := #[.pointer (some ⟨g + 1, 0, none⟩), .int .i64 a.fz, .int .i64 a.pr, .map (some g)]
def cmB (a : Ag) (j : Int) : Bool := decide (j ∈ a.cm)
/-- The agent at block g + 1, its set at g. -/
structure AgX (w : World) (g : Nat) (a : Ag) : Prop where
  blk : Blk w (g + 1) 77 (aga g a)
  set : St w g a.cm.length (cmB a)
section
variable {w w' : World} {g : Nat} {a : Ag} {S : Nat → Prop}
theorem AgX.fu (h : AgX w g a) (hf : Fu S w w') (h0 : ¬ S g) (h1 : ¬ S (g + 1)) : AgX w' g a := ⟨blk_fu h.blk hf h1, h.set.fu hf h0⟩
theorem AgX.keep (h : AgX w g a) (hb : Below w.heap.size w w') : AgX w' g a := h.fu (S := fun _ => False) (Fu.ofBelow hb) (fun e => e) (fun e => e)
theorem AgX.drewN (h : AgX w g a) (k : Nat) : AgX (w.drewN k) g a := h.keep (below_drewN (Below.refl _ _) k)
theorem AgX.lt (h : AgX w g a) : g + 1 < w.heap.size := h.blk.lt
theorem AgX.cells (h : AgX w g a) : w.cell? ⟨g + 1, 0, none⟩ = some (.pointer (some ⟨g + 1, 0, none⟩)) ∧ w.cell? ⟨g + 1, 1, none⟩ = some (.int .i64 a.fz) ∧ w.cell? ⟨g + 1, 2, none⟩ = some (.int .i64 a.pr) ∧ w.cell? ⟨g + 1, 3, none⟩ = some (.map (some g)) :=
  ⟨h.blk.cell rfl, h.blk.cell rfl, h.blk.cell rfl, h.blk.cell rfl⟩
/-- What it has frozen or prepared is written. -/
theorem AgX.setF (h : AgX w g a) (x : Int) : AgX (w.setCell ⟨g + 1, 1, none⟩ (.int .i64 x)) g { a with fz := x } :=
  ⟨by have := h.blk.setCell 1 (.int .i64 x); simpa using this, h.set.fu (S := fun k => k = g + 1) (fu_set (Fu.refl _ _) _ _ _ rfl) (by omega)⟩
theorem AgX.setP (h : AgX w g a) (x : Int) : AgX (w.setCell ⟨g + 1, 2, none⟩ (.int .i64 x)) g { a with pr := x } :=
  ⟨by have := h.blk.setCell 2 (.int .i64 x); simpa using this, h.set.fu (S := fun k => k = g + 1) (fu_set (Fu.refl _ _) _ _ _ rfl) (by omega)⟩
end
theorem size_agent : (Try.prog.info? 77).map (·.size) = some 4 := by kernel_rfl
theorem eql_agent (a : Addr) (w : World) : (binOp .eql 23 (.pointer (some a)) (.pointer (some a))).run Try.prog w = .ok (.bool true) w := by
  obtain ⟨j, hj, _⟩ := Option.map_eq_some_iff.1 size_agent
  exact run_eql_ptr_same w a Try.underlying23 hj
theorem eql_agent_none (a : Addr) (w : World) : (binOp .eql 23 (.pointer none) (.pointer (some a))).run Try.prog w = .ok (.bool false) w := by
  have h : ∀ d : Nat, (Op.equalIn (d + 1) 23 (.pointer none) (.pointer (some a))).run Try.prog w = .ok false w := fun d => by
    simp [Op.equalIn, run_underlying Try.underlying23]
  simp only [binOp]
  simp [Op.equal, Op.maxDepth, h 9999]
section
variable (w : World)
set_option maxRecDepth 100000 in
set_option maxHeartbeats 1000000 in
theorem agiven_ (b : Nat) (c0 : w.cell? ⟨b, 0, none⟩ = some (.pointer (some ⟨b, 0, none⟩))) : Calls Try.prog 38 #[.pointer (some ⟨b, 0, none⟩)] w fun e w' => e = .returned (.bool true) ∧ w = w' := by
  have q := eql_agent ⟨b, 0, none⟩ w
  go_enter Try.func38, Try.ntmps38
  go_wp2
  go_ret
  exact ⟨rfl, rfl⟩
set_option maxRecDepth 100000 in
set_option maxHeartbeats 1000000 in
theorem agiven_nil : Calls Try.prog 38 #[.pointer none] w fun e w' => e = .returned (.bool false) ∧ w = w' := by
  go_enter Try.func38, Try.ntmps38
  go_wp2
  go_ret
  exact ⟨rfl, rfl⟩
set_option maxRecDepth 100000 in
set_option maxHeartbeats 1000000 in
theorem agiven_no (b : Nat) (c0 : w.cell? ⟨b, 0, none⟩ = some (.pointer none)) : Calls Try.prog 38 #[.pointer (some ⟨b, 0, none⟩)] w fun e w' => e = .returned (.bool false) ∧ w = w' := by
  have q := eql_agent_none ⟨b, 0, none⟩ w
  go_enter Try.func38, Try.ntmps38
  go_wp2
  go_ret
  exact ⟨rfl, rfl⟩
set_option maxRecDepth 100000 in
set_option maxHeartbeats 1000000 in
theorem anew_ : Calls Try.prog 10 #[] w fun e w' => e = .returned (.pointer (some ⟨w.heap.size + 1, 0, none⟩)) ∧ AgX w' w.heap.size ag0 ∧ Below w.heap.size w w' ∧ w'.heap.size = w.heap.size + 2 := by
  obtain ⟨w1, hw1⟩ : ∃ w1, w.alloc (.map #[] 0) = w1 := ⟨_, rfl⟩
  have hm : St w1 w.heap.size 0 (cmB ag0) := by rw [← hw1]; exact (St.made w).congr (fun j => by simp [cmB, ag0])
  have hs1 : w1.heap.size = w.heap.size + 1 := by rw [← hw1]; simp
  have hb1 : Below w.heap.size w w1 := by rw [← hw1]; exact (Below.refl _ _).alloc (Nat.le_refl _) _
  have hmk : (Instr.makeMap 75 none).run Try.prog w = .ok (.map (some w.heap.size)) w1 := by rw [← hw1]; exact run_makeMap _ _
  have hb0 : Blk (w1.alloc (.cells #[.pointer none, .int .i64 0, .int .i64 0, .map (some w.heap.size)] 77)) (w.heap.size + 1) 77 #[.pointer none, .int .i64 0, .int .i64 0, .map (some w.heap.size)] := by rw [← hs1]; exact Blk.new w1 _ _ rfl
  have c0 := hb0.cell (j := 0) (u := .pointer none) rfl
  have f0 := hb0.free 0
  have hb : Blk (w1.alloc (.cells (aga w.heap.size ag0) 77)) (w.heap.size + 1) 77 (aga w.heap.size ag0) := by rw [← hs1]; exact Blk.new w1 _ _ rfl
  have hbl : Below w.heap.size w (w1.alloc (.cells (aga w.heap.size ag0) 77)) := hb1.alloc (by omega) _
  have hm0 := hm.fu (S := fun _ => False) (Fu.ofBelow ((Below.refl _ _).alloc (Nat.le_refl _) (.cells (aga w.heap.size ag0) 77))) (fun e => e)
  have hs2 : (w1.alloc (.cells (aga w.heap.size ag0) 77)).heap.size = w.heap.size + 2 := by simp; omega
  clear hw1 hm hb1 hb0
  go_enter Try.func10, Try.ntmps10
  go_wp2
  go_ret
  exact ⟨rfl, ⟨hb, hm0⟩, hbl, hs2⟩
set_option maxRecDepth 100000 in
set_option maxHeartbeats 1000000 in
theorem frozen_ (g : Nat) (a : Ag) (h : AgX w g a) : Calls Try.prog 15 #[.pointer (some ⟨g + 1, 0, none⟩)] w fun r w' => r = .returned (.int .i64 a.fz) ∧ w = w' := by
  obtain ⟨c0, c1, c2, c3⟩ := h.cells
  clear h
  go_enter Try.func15, Try.ntmps15
  go_wp2_with fail
  refine (agiven_ w (g + 1) c0).mono ?_
  rintro r w' ⟨rfl, rfl⟩
  go_wp2
  go_ret
  exact ⟨rfl, rfl⟩
set_option maxRecDepth 100000 in
set_option maxHeartbeats 1000000 in
theorem prepared_ (g : Nat) (a : Ag) (h : AgX w g a) : Calls Try.prog 16 #[.pointer (some ⟨g + 1, 0, none⟩)] w fun r w' => r = .returned (.int .i64 a.pr) ∧ w = w' := by
  obtain ⟨c0, c1, c2, c3⟩ := h.cells
  clear h
  go_enter Try.func16, Try.ntmps16
  go_wp2_with fail
  refine (agiven_ w (g + 1) c0).mono ?_
  rintro r w' ⟨rfl, rfl⟩
  go_wp2
  go_ret
  exact ⟨rfl, rfl⟩
set_option maxRecDepth 100000 in
set_option maxHeartbeats 1000000 in
theorem committed_ (g : Nat) (a : Ag) (h : AgX w g a) (id : Int) (hi : I64 id) : Calls Try.prog 17 #[.pointer (some ⟨g + 1, 0, none⟩), .int .i64 id] w fun r w' => r = .returned (.bool (cmB a id)) ∧ Below w.heap.size w w' := by
  obtain ⟨c0, c1, c2, c3⟩ := h.cells
  have hk := h.set.look hi
  have hb : Below w.heap.size w (w.alloc (.cells #[] 84)) := (Below.refl _ _).alloc (Nat.le_refl _) _
  clear h
  go_enter Try.func17, Try.ntmps17
  go_wp2_with fail
  refine (agiven_ w (g + 1) c0).mono ?_
  rintro r w' ⟨rfl, rfl⟩
  go_wp2
  go_ret
  exact ⟨rfl, hb⟩
end
end Bar
end Go.Proofs.Ytpjbeodnalgkfaa
