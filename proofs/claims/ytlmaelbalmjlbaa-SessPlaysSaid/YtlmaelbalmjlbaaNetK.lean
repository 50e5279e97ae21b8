/- Layer 15: a bag as it lies in memory; New, made, refuse, Size. -/
import Derived.Test.YtlmaelbalmjlbaaNetC
set_option linter.all false
namespace Go.Proofs.Ytlmaelbalmjlbaa
open Go.RowKit
namespace Net

/-! ### frames: all blocks that were there, but those of S, stay -/
structure Fu (S : Nat → Prop) (w w' : World) : Prop where
  os : w'.os = w.os
  tape : w'.tape = w.tape
  output : w'.output = w.output
  size : w.heap.size ≤ w'.heap.size
  block : ∀ k, k < w.heap.size → ¬ S k → w'.heap[k]? = w.heap[k]?
theorem Fu.refl (S : Nat → Prop) (w : World) : Fu S w w := ⟨rfl, rfl, rfl, Nat.le_refl _, fun _ _ _ => rfl⟩
theorem Fu.then {S T : Nat → Prop} {a b c : World} (h : Fu S a b) (k : Fu T b c) (ht : ∀ j, T j → S j ∨ a.heap.size ≤ j) : Fu S a c :=
  ⟨k.os.trans h.os, k.tape.trans h.tape, k.output.trans h.output, Nat.le_trans h.size k.size, fun j hj hs => by
    refine (k.block j (Nat.lt_of_lt_of_le hj h.size) (fun hT => ?_)).trans (h.block j hj hs)
    rcases ht j hT with h1 | h1
    · exact hs h1
    · omega⟩
theorem Fu.mono {S T : Nat → Prop} {w w' : World} (h : Fu S w w') (hs : ∀ j, S j → T j) : Fu T w w' := ⟨h.os, h.tape, h.output, h.size, fun j hj ht => h.block j hj (fun s => ht (hs j s))⟩
theorem Fu.ofBelow {S : Nat → Prop} {w w' : World} (h : Below w.heap.size w w') : Fu S w w' := ⟨h.os, h.tape, h.output, h.size, fun j hj _ => h.block j hj⟩
theorem Fu.ofGrown {S : Nat → Prop} {w w' : World} {row : Option Nat} (h : w.grownBy w' row) (hr : ∀ k, row = some k → S k) : Fu S w w' := ⟨h.os, h.tape, h.output, h.size, fun j hj hs => h.block j hj (fun e => hs (hr j e.symm))⟩
theorem Fu.below {S : Nat → Prop} {w w' : World} {B : Nat} (h : Fu S w w') (hB : B ≤ w.heap.size) (hs : ∀ j, S j → B ≤ j) : Below B w w' :=
  ⟨h.os, h.tape, h.output, h.size, fun j hj => h.block j (by omega) (fun s => by have := hs j s; omega)⟩
theorem Fu.drew {S : Nat → Prop} {w w' : World} (h : Fu S w w') : Fu S w w'.drew := ⟨h.os, h.tape, h.output, h.size, h.block⟩
theorem Fu.drewN {S : Nat → Prop} {w w' : World} (h : Fu S w w') (k : Nat) : Fu S w (w'.drewN k) := ⟨h.os, h.tape, h.output, h.size, h.block⟩
theorem Fu.step {S : Nat → Prop} {a b c : World} {row : Option Nat} (h : Fu S a b) (k : b.grownBy c row) (hr : ∀ j, row = some j → S j ∨ a.heap.size ≤ j) : Fu S a c :=
  h.then (T := fun j => row = some j) (Fu.ofGrown k (fun _ e => e)) hr
theorem blk_fu {S : Nat → Prop} {w w' : World} {b : Nat} {t : TypeId} {cs : Array Value} (h : Blk w b t cs) (hf : Fu S w w') (hs : ¬ S b) : Blk w' b t cs := (hf.block b h.lt hs).trans h
theorem own_fu {S : Nat → Prop} {w w' : World} {B : Nat} {e : TypeId} {sz n : Nat} {v : Value} {xs : List Value} (h : w.ownsRow B e sz v n xs) (hf : Fu S w w') (hs : ∀ g, v.ownBlock = some g → ¬ S g) : w'.ownsRow B e sz v n xs := by
  refine ⟨h.1, ?_⟩
  rcases h.2 with h2 | ⟨g, cap, cur, rfl, hb, hh, r⟩
  · exact .inl h2
  · exact .inr ⟨g, cap, cur, rfl, hb, (hf.block g (h.lt g rfl).2 (hs g rfl)).trans hh, r⟩

/-! ### bags -/
abbrev gv (p : Value × Gr) : List Value := [p.1, .bool p.2.s]
def gvs (L : List (Value × Gr)) : List Value := L.flatMap gv
theorem gvs_app (L L' : List (Value × Gr)) : gvs (L ++ L') = gvs L ++ gvs L' := by simp [gvs]
theorem gvs_cons (p : Value × Gr) (L : List (Value × Gr)) : gvs (p :: L) = gv p ++ gvs L := rfl
theorem gvs_snoc (L : List (Value × Gr)) (p : Value × Gr) : gvs (L ++ [p]) = gvs L ++ gv p := by rw [gvs_app]; simp [gvs]
theorem gvs_len : ∀ L : List (Value × Gr), (gvs L).length = L.length * 2
  | [] => rfl
  | p :: L => by rw [gvs_cons, List.length_append, gvs_len L, List.length_cons]; simp; omega
theorem gvs_take : ∀ (L : List (Value × Gr)) (k : Nat), (gvs L).take (k * 2) = gvs (L.take k)
  | [], k => by simp [gvs]
  | p :: L, 0 => by simp [gvs]
  | p :: L, k + 1 => by
    rw [gvs_cons, List.take_succ_cons, gvs_cons, show (k + 1) * 2 = k * 2 + 1 + 1 by omega, ← gvs_take L k]; rfl
theorem gvs_drop : ∀ (L : List (Value × Gr)) (k : Nat), (gvs L).drop (k * 2) = gvs (L.drop k)
  | [], k => by simp [gvs]
  | p :: L, 0 => by simp [gvs]
  | p :: L, k + 1 => by
    rw [gvs_cons, List.drop_succ_cons, show (k + 1) * 2 = k * 2 + 1 + 1 by omega, ← gvs_drop L k]; rfl
theorem gvs_at : ∀ {L : List (Value × Gr)} {k : Nat} (h : k < L.length) {j : Nat} (_ : j < 2), (gvs L)[k * 2 + j]? = (gv L[k])[j]?
  | p :: L, 0, _, j, hj => by
    rw [gvs_cons, List.getElem?_append_left (by simp; omega)]
    simp
  | p :: L, k + 1, h, j, hj => by
    rw [gvs_cons, List.getElem?_append_right (by simp; omega)]
    have e : (k + 1) * 2 + j - (gv p).length = k * 2 + j := by simp; omega
    rw [e, gvs_at (L := L) (by simpa using h) hj]
    simp
end Net
end Go.Proofs.Ytlmaelbalmjlbaa
