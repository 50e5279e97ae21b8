/- Layer 17: the document's coordinator in memory: turn, State, Begin, Abort, Crash. -/
import Derived.Test.YtpjbeodnalgkfaaBarRa
set_option linter.all false
namespace Go.Proofs.Ytpjbeodnalgkfaa
open Go.RowKit
namespace Bar
def bls (l : List Bool) : Array Value := (l.map Value.bool).toArray
theorem bls_size (l : List Bool) : (bls l).size = l.length := by simp [bls]
theorem bls_at {l : List Bool} {i : Nat} {b : Bool} (h : l[i]? = some b) : (bls l)[i]? = some (.bool b) := by simp [bls, h]
theorem bls_set {l : List Bool} {i : Nat} (b : Bool) : (bls l).setIfInBounds i (.bool b) = bls (l.set i b) := by simp [bls, List.map_set]
theorem bls_made (n : Nat) : madeCells (Value.bool false).cells (n * 1) = bls (List.replicate n false) := by
  have h1 : (madeCells (Value.bool false).cells (n * 1)).size = n := by rw [size_madeCells]; omega
  apply Array.ext_getElem?
  intro j
  by_cases hj : j < n
  · rw [bls_at (b := false) (by rw [List.getElem?_replicate, if_pos hj])]
    have : (Value.bool false).cells = #[.bool false] := rfl
    rw [this]
    simp only [madeCells]
    simp [hj, Nat.mod_one]
  · rw [Array.getElem?_eq_none (by rw [h1]; omega), Array.getElem?_eq_none (by rw [bls_size]; simp; omega)]
theorem info_bool : (Try.prog.info? 4).map (fun i => (i.zero, i.size, i.bytes)) = some (some (.bool false), 1, 1) := by kernel_rfl
theorem bool_info : ∃ i, Try.prog.info? 4 = some i ∧ i.zero = some (.bool false) ∧ i.size = 1 ∧ i.bytes = 1 := by
  obtain ⟨i, hi, he⟩ := Option.map_eq_some_iff.1 info_bool
  simp only [Prod.mk.injEq] at he
  exact ⟨i, hi, he.1, he.2.1, he.2.2⟩
abbrev rca (g n : Nat) (ph id : Int) (u v : Value) : Array Value := #[.slice (some ⟨g, 0, none⟩) n n, .int .i64 ph, .int .i64 id, u, v]
/-- The document's coordinator at b. -/
structure RcX (w : World) (b : Nat) (U : Nat → Prop) (c : Co) (g : Nat) (A1 : Option Addr) (n1 c1 : Nat) (A2 : Option Addr) (n2 c2 : Nat) : Prop where
  blk : Blk w b 43 (rca g c.ans.length c.ph c.id (.slice A1 n1 c1) (.slice A2 n2 c2))
  ans : Blk w g 4 (bls c.ans)
  cm : Op w U A1 n1 c1 c.cm
  ab : Op w U A2 n2 c2 c.ab
  nil1 : A1 = none → n1 = 0
  nil2 : A2 = none → n2 = 0
  gU : U g
  ap1 : ∀ a, A1 = some a → a.block ≠ g
  ap2 : ∀ a, A2 = some a → a.block ≠ g
  out : ¬ U b
def Rc (w : World) (b : Nat) (U : Nat → Prop) (c : Co) : Prop := ∃ g A1 n1 c1 A2 n2 c2, RcX w b U c g A1 n1 c1 A2 n2 c2
section
variable {w w' : World} {b g n1 c1 n2 c2 : Nat} {c : Co} {S U U' : Nat → Prop} {A1 A2 : Option Addr}
theorem RcX.fu (h : RcX w b U c g A1 n1 c1 A2 n2 c2) (hf : Fu S w w') (hs : ∀ k, U k → ¬ S k) (h0 : ¬ S b) : RcX w' b U c g A1 n1 c1 A2 n2 c2 :=
  ⟨blk_fu h.blk hf h0, blk_fu h.ans hf (hs g h.gU), h.cm.fu hf hs, h.ab.fu hf hs, h.nil1, h.nil2, h.gU, h.ap1, h.ap2, h.out⟩
theorem Rc.fu (h : Rc w b U c) (hf : Fu S w w') (hs : ∀ k, U k → ¬ S k) (h0 : ¬ S b) : Rc w' b U c := by
  obtain ⟨g, A1, n1, c1, A2, n2, c2, h⟩ := h; exact ⟨g, A1, n1, c1, A2, n2, c2, h.fu hf hs h0⟩
theorem Rc.keep (h : Rc w b U c) (hb : Below w.heap.size w w') : Rc w' b U c := h.fu (S := fun _ => False) (Fu.ofBelow hb) (fun _ _ e => e) (fun e => e)
theorem Rc.drewN (h : Rc w b U c) (k : Nat) : Rc (w.drewN k) b U c := h.keep (below_drewN (Below.refl _ _) k)
theorem RcX.sub (h : RcX w b U c g A1 n1 c1 A2 n2 c2) (hu : ∀ k, U k → k < w.heap.size → U' k) (ho : ¬ U' b) : RcX w b U' c g A1 n1 c1 A2 n2 c2 :=
  ⟨h.blk, h.ans, h.cm.sub hu, h.ab.sub hu, h.nil1, h.nil2, hu g h.gU h.ans.lt, h.ap1, h.ap2, ho⟩
theorem Rc.sub (h : Rc w b U c) (hu : ∀ k, U k → k < w.heap.size → U' k) (ho : ¬ U' b) : Rc w b U' c := by
  obtain ⟨g, A1, n1, c1, A2, n2, c2, h⟩ := h; exact ⟨g, A1, n1, c1, A2, n2, c2, h.sub hu ho⟩
theorem Rc.lt (h : Rc w b U c) : b < w.heap.size := by obtain ⟨g, A1, n1, c1, A2, n2, c2, h⟩ := h; exact h.blk.lt
theorem RcX.cells (h : RcX w b U c g A1 n1 c1 A2 n2 c2) : w.cell? ⟨b, 0, none⟩ = some (.slice (some ⟨g, 0, none⟩) c.ans.length c.ans.length) ∧ w.cell? ⟨b, 1, none⟩ = some (.int .i64 c.ph) ∧ w.cell? ⟨b, 2, none⟩ = some (.int .i64 c.id) ∧ w.cell? ⟨b, 3, none⟩ = some (.slice A1 n1 c1) ∧ w.cell? ⟨b, 4, none⟩ = some (.slice A2 n2 c2) :=
  ⟨h.blk.cell rfl, h.blk.cell rfl, h.blk.cell rfl, h.blk.cell rfl, h.blk.cell rfl⟩
end
/-- Where it comes to stand. -/
def RcA (w w' : World) (b : Nat) (U : Nat → Prop) (c : Co) : Prop := Rc w' b (fun k => U k ∨ w.heap.size ≤ k) c ∧ Fu (fun k => k = b ∨ U k) w w'
theorem RcA.same {w : World} {b : Nat} {U : Nat → Prop} {c : Co} (h : Rc w b U c) : RcA w w b U c := by
  have hl := h.lt
  obtain ⟨g, A1, n1, c1, A2, n2, c2, hX⟩ := h
  exact ⟨⟨g, A1, n1, c1, A2, n2, c2, hX.sub (fun k hk _ => .inl hk) (fun q => q.elim hX.out (by omega))⟩, Fu.refl _ _⟩
theorem RcA.then {w w1 w' : World} {b : Nat} {U : Nat → Prop} {c c' : Co} (h : RcA w w1 b U c) (h' : RcA w1 w' b (fun k => U k ∨ w.heap.size ≤ k) c') (ho : ¬ U b) (hb : b < w.heap.size) : RcA w w' b U c' := by
  have hs := h.2.size
  refine ⟨h'.1.sub (fun k hk _ => ?_) (fun q => q.elim ho (by omega)), h.2.then h'.2 (fun j q => ?_)⟩
  · rcases hk with (hk | hk) | hk
    · exact .inl hk
    · exact .inr hk
    · exact .inr (by omega)
  · rcases q with q | q | q
    · exact .inl (.inl q)
    · exact .inl (.inr q)
    · exact .inr q
section
variable (w : World)
set_option maxRecDepth 100000 in
set_option maxHeartbeats 8000000 in
theorem rturn_ (b : Nat) (U : Nat → Prop) (c : Co) (h : Rc w b U c) (hn : c.ans.length ≤ 16) (p : Int) : Calls Try.prog 45 #[.pointer (some ⟨b, 0, none⟩), .int .i64 p] w fun r w' => r = .returned (.tuple #[]) ∧ RcA w w' b U (turnC c p) := by
  have hl := h.lt
  obtain ⟨g, A1, n1, c1, A2, n2, c2, h⟩ := h
  obtain ⟨d0, d1, d2, d3, d4⟩ := h.cells
  have f0 := h.blk.free 0
  have f1 := h.blk.free 1
  obtain ⟨n, hnn⟩ : ∃ n, c.ans.length = n := ⟨_, rfl⟩
  rw [hnn] at d0 hn
  have Hn := Lib.hid hnn
  have H := Lib.hid h
  obtain ⟨i0, hi0, hz0, hz1, hz2⟩ := bool_info
  have Hz := Lib.hid hz2
  have k1 : Blk (w.setCell ⟨b, 1, none⟩ (.int .i64 p)) b 43 (rca g c.ans.length p c.id (.slice A1 n1 c1) (.slice A2 n2 c2)) := by
    have := h.blk.setCell 1 (.int .i64 p)
    simpa using this
  have K1 := Lib.hid k1
  have e0 : (w.setCell ⟨b, 1, none⟩ (.int .i64 p)).cell? ⟨b, 0, none⟩ = some (.slice (some ⟨g, 0, none⟩) n n) := by rw [← hnn]; exact k1.cell rfl
  clear hz2 h hnn k1
  go_enter Try.func45, Try.ntmps45
  go_wp2_with (first
    | (at_make
       refine wpList_make_blk _ rfl _ _ 41 rfl 4 i0 _ 1 1 Try.underlying41 hi0 hz0 hz1 Hz.out .i64 .i64 _ _ n rfl rfl rfl rfl (by omega) (by omega) ?_
       intro w2 hk2 hb2 hs2
       have k2 := K1.out.keep hb2
       have q0 := k2.cell (j := 0) (u := .slice (some ⟨g, 0, none⟩) c.ans.length c.ans.length) rfl
       have q1 := k2.free 0)
    | fail)
  go_end0
  have hsz : (w.setCell ⟨b, 1, none⟩ (.int .i64 p)).heap.size = w.heap.size := by simp [World.setCell]
  rw [hsz] at hk2 hb2 hs2
  rw [bls_made] at hk2
  have hF : Fu (fun k => k = b) w (w2.setCell ⟨b, 0, none⟩ (.slice (some ⟨w.heap.size, 0, none⟩) n n)) := fu_set (S := fun k => k = b) ((fu_set (S := fun k => k = b) (Fu.refl _ _) _ _ (.int .i64 p) rfl).then (Fu.ofBelow (S := fun k => k = b) (w := w.setCell ⟨b, 1, none⟩ (.int .i64 p)) (by rw [hsz]; exact hb2)) (fun j q => .inl q)) _ _ _ rfl
  have hF2 : Fu (fun k => k = b) w2 (w2.setCell ⟨b, 0, none⟩ (.slice (some ⟨w.heap.size, 0, none⟩) n n)) := fu_set (S := fun k => k = b) (Fu.refl _ _) _ _ _ rfl
  refine ⟨rfl, ⟨w.heap.size, A1, n1, c1, A2, n2, c2, ?_, ?_, ?_, ?_, H.out.nil1, H.out.nil2, .inr (Nat.le_refl _), fun a e => ?_, fun a e => ?_, fun q => q.elim H.out.out (by omega)⟩, hF.mono (fun k e => .inl e)⟩
  · have := k2.setCell 0 (.slice (some ⟨w.heap.size, 0, none⟩) n n)
    simpa [turnC, Hn.out] using this
  · have := blk_fu hk2 hF2 (by omega)
    simpa [turnC, Hn.out] using this
  · exact (H.out.cm.fu hF (fun k hk e => H.out.out (e ▸ hk))).sub (fun k hk _ => .inl hk)
  · exact (H.out.ab.fu hF (fun k hk e => H.out.out (e ▸ hk))).sub (fun k hk _ => .inl hk)
  · have := (H.out.cm.rowU a e).2; omega
  · have := (H.out.ab.rowU a e).2; omega

end
end Bar
end Go.Proofs.Ytpjbeodnalgkfaa
