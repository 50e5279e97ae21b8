/- Layer 12: settle; Flush, Freeze, Rollback. -/
import Derived.Test.YtfcfffilfmbpeaaShaC
set_option linter.all false
namespace Go.Proofs.Ytfcfffilfmbpeaa
open Go.RowKit Go.Maps
namespace Sha
open Blo (vol fun_ GotN AnsN Dat FitB)

/-- What a call leaves. -/
structure Nx (w w' : World) (B : Nat) (U : Nat → Prop) (b : Nat) (s : SS) : Prop where
  sh : Sh w' B (gr U w w') b s
  fr : Fr B U w w'
theorem Sh.sub {w : World} {B b : Nat} {U U' : Nat → Prop} {s : SS} (h : Sh w B U b s) (hu : ∀ j, U j → U' j) (hl : ∀ j, U' j → B ≤ j ∧ j < w.heap.size) : Sh w B U' b s := by
  obtain ⟨k, h, ht⟩ := h
  exact ⟨k, ⟨h.blk, h.r.sub hu hl⟩, ht⟩
theorem gr_low {U : Nat → Prop} {w w' : World} {B : Nat} (hU : ∀ j, U j → B ≤ j ∧ j < w.heap.size) (hB : B ≤ w.heap.size) (hs : w.heap.size ≤ w'.heap.size) : ∀ j, gr U w w' j → B ≤ j ∧ j < w'.heap.size := fun j hj => by
  rcases hj with hj | hj
  · have := hU j hj; omega
  · omega
theorem Nx.refl {w : World} {B b : Nat} {U : Nat → Prop} {s : SS} (h : Sh w B U b s) : Nx w w B U b s := ⟨h.sub (fun j hj => .inl hj) (gr_low h.ulow h.base (Nat.le_refl _)), Fr.refl _ _ _⟩
theorem Nx.then {w w1 w2 : World} {B b : Nat} {U : Nat → Prop} {s : SS} (hU : ∀ j, U j → B ≤ j ∧ j < w.heap.size) (hB : B ≤ w.heap.size) (h : Fr B U w w1) (k : Nx w1 w2 B (gr U w w1) b s) : Nx w w2 B U b s := by
  have h1 := h.size
  have h2 := k.fr.size
  refine ⟨k.sh.sub (fun j hj => ?_) (gr_low hU hB (by omega)), h.trans k.fr⟩
  rcases hj with (hj | hj) | hj
  · exact .inl hj
  · exact .inr (by omega)
  · exact .inr (by omega)
theorem Nx.pre {w w1 w2 : World} {B b : Nat} {U : Nat → Prop} {s : SS} (hU : ∀ j, U j → B ≤ j ∧ j < w.heap.size) (hB : B ≤ w.heap.size) (h : Fr B U w w1) (k : Nx w1 w2 B U b s) : Nx w w2 B U b s := by
  have h1 := h.size
  have h2 := k.fr.size
  exact ⟨k.sh.sub (fun j hj => hj.imp id fun q => ⟨Nat.le_trans h1 q.1, q.2⟩) (gr_low hU hB (by omega)), h.then k.fr fun j hj => .inl hj⟩
theorem Nx.below {w w1 w2 : World} {B b : Nat} {U : Nat → Prop} {s : SS} (h : Below w.heap.size w w1) (hB : B ≤ w.heap.size) (k : Nx w1 w2 B U b s) : Nx w w2 B U b s := by
  have h1 := h.size
  have h2 := k.fr.size
  refine ⟨k.sh.sub (fun j hj => ?_) (fun j hj => ?_), (Fr.ofBelow h hB).then k.fr fun j hj => .inl hj⟩
  · rcases hj with hj | hj
    · exact .inl hj
    · exact .inr (by omega)
  · have := k.sh.ulow
    rcases hj with hj | hj
    · exact this j (.inl hj)
    · omega
theorem Nx.undrew {w w2 : World} {B b : Nat} {U : Nat → Prop} {s : SS} (hB : B ≤ w.heap.size) (k : Nx w.drew w2 B U b s) : Nx w w2 B U b s := k.below (below_drewN (Below.refl _ _) 1) hB
/-- Some turn of the shard's own cells. -/
theorem Nx.own {w w' : World} {B b : Nat} {U : Nat → Prop} {s' : SS} (hU : ∀ j, U j → B ≤ j ∧ j < w.heap.size) (hBb : B ≤ b) (hb : U b) (hg : w.grownBy w' (some b)) (h : Sh w' B U b s') : Nx w w' B U b s' := by
  have := hg.size
  have hbl := (hU b hb).2
  exact ⟨h.sub (fun j hj => .inl hj) (gr_low hU (by omega) this), Fr.grown hg (by omega) fun j hj => by injection hj with hj; subst hj; exact ⟨hBb, hb⟩⟩
section
variable (w : World)
theorem ShX.set {w : World} {B b : Nat} {U : Nat → Prop} {s : SS} {k : CS} (h : ShX w B U b s k) (r : Nat) (v : List Nat) (hs : Shw s.n k.ls k.u r v) (w' : World) (hw : ((w.setCell ⟨b, 4, none⟩ (.int .i64 (r : Int))).setCell ⟨b, 5, none⟩ (.int .i64 (r : Int))).setCell ⟨b, 6, none⟩ (.slice none 0 0) = w') :
    ShX w' B U b (setS s v) { k with now := r, sure := r, ov := .slice none 0 0, oc := [] } ∧ w.grownBy w' (some b) := by
  have hblk := ((h.blk.setCell 4 (.int .i64 (r : Int))).setCell 5 (.int .i64 (r : Int))).setCell 6 (.slice none 0 0)
  have hg := gset3 w b 4 5 6 (.int .i64 (r : Int)) (.int .i64 (r : Int)) (.slice none 0 0)
  rw [hw] at hblk hg
  have hr := h.r.turnedT hg h.blk (by decide) (by decide) (by decide) (by decide) (by decide) (by decide)
  exact ⟨⟨hblk, { gm := hr.gm, base := hr.base, ub := hr.ub, ulow := hr.ulow, spare := hr.spare, zero := hr.zero, now := hs, sure := hs, orow := own_nil _ _ _ _, oout := fun g hg => (by cases hg), ops := .nil, rrow := hr.rrow, rout := hr.rout, map := hr.map, mout := hr.mout, snaps := hr.snaps, ok := hr.ok.setS hs.length }⟩, hg⟩
set_option maxRecDepth 100000 in
set_option maxHeartbeats 1000000 in
theorem settle_ (B b : Nat) (U : Nat → Prop) (s : SS) (k : CS) (h : ShX w B U b s k) (r : Nat) (v : List Nat) (hs : Shw s.n k.ls k.u r v) :
    Calls Try.prog 35 #[.pointer (some ⟨b, 0, none⟩), .int .i64 (r : Int)] w fun e w' => e = .returned (.tuple #[]) ∧ Nx w w' B U b (setS s v) := by
  obtain ⟨w1, hw1⟩ : ∃ w1, ((w.setCell ⟨b, 4, none⟩ (.int .i64 (r : Int))).setCell ⟨b, 5, none⟩ (.int .i64 (r : Int))).setCell ⟨b, 6, none⟩ (.slice none 0 0) = w1 := ⟨_, rfl⟩
  obtain ⟨h1, hg1⟩ := h.set r v hs w1 hw1
  obtain ⟨OA, oc, hov, -, -, -⟩ := own_form h.r.orow
  have c4 := h.cell (j := 4) (u := .int .i64 (k.now : Int)) rfl
  have c5 := h.cell (j := 5) (u := .int .i64 (k.sure : Int)) rfl
  have c6 : w.cell? ⟨b, 6, none⟩ = some (.slice OA k.oc.length oc) := by rw [← hov]; exact h.cell rfl
  have f4 := h.blk.free 4
  have f5 := h.blk.free 5
  have f6 := h.blk.free 6
  have hBb := h.r.base
  have hUb := h.r.ub
  have hUl := h.r.ulow
  have hbl := h.blk.lt
  have d2 := h1.cell (j := 2) (u := .pointer (some ⟨k.f, 0, none⟩)) rfl
  have htr := treesF_ w1 B k.f k.ls h1.r.gm.fo
  have hfew : k.ls.length ≤ 3000 := h1.r.gm.gd.few
  have hNx : k.ls.length ≤ 256 → Nx w w1 B U b (setS s v) := fun hl => Nx.own hUl hBb hUb hg1 ⟨_, h1, by show k.ls.length ≤ _; omega⟩
  have hcl := clean_ w1 B b U (setS s v) _ h1 rfl rfl
  clear h hov
  generalize hkl : k.ls.length = kl at *
  have Hkl := Lib.hid hkl
  clear hkl h1
  go_enter Try.func35, Try.ntmps35
  go_wp2_with fail
  refine htr.mono ?_
  rintro e w' ⟨rfl, rfl⟩
  by_cases h256 : 256 < kl
  · have h256i : (256 : Int) < (kl : Int) := by omega
    go_wp2_with fail
    refine hcl.mono ?_
    rintro e w3 ⟨rfl, hS3, hF3⟩
    go_wp2
    go_end0
    refine ⟨rfl, Nx.then (w1 := w1) hUl (by omega) (Fr.grown hg1 (by omega) fun j hj => by injection hj with hj; subst hj; exact ⟨hBb, hUb⟩) ⟨hS3.sub (fun j hj => hj.imp .inl id) (fun j hj => ?_), hF3.sub fun j _ hj => .inl hj⟩⟩
    have h1s : w.heap.size ≤ w1.heap.size := hg1.size
    have h3s : w1.heap.size ≤ w3.heap.size := hF3.size
    rcases hj with (hj | hj) | hj
    · have := hUl j hj; omega
    · omega
    · omega
  · have h256i : ¬ (256 : Int) < (kl : Int) := by omega
    go_wp2
    go_end0
    exact ⟨rfl, hNx (by omega)⟩
end
end Sha
end Go.Proofs.Ytfcfffilfmbpeaa
