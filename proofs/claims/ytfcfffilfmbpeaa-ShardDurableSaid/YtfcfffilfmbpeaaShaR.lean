/- Layer 12: what the statements share: a shard in a script. -/
import Derived.Test.YtfcfffilfmbpeaaShaP
set_option linter.all false
namespace Go.Proofs.Ytfcfffilfmbpeaa
open Go.RowKit
namespace Sha
open Blo (vol fun_ GotN AnsN Dat FitB words_)

/-- A shard of the call's own. -/
structure Run (w wr : World) (b : Nat) (U : Nat → Prop) (s : SS) : Prop where
  sh : Sh wr w.heap.size U b s
  bel : Below w.heap.size w wr
theorem Run.below {w wr wx : World} {b : Nat} {U : Nat → Prop} {s : SS} (h : Run w wr b U s) (hb : Below wr.heap.size wr wx) : Run w wx b U s := ⟨h.sh.below hb, h.bel.trans (hb.mono h.bel.size)⟩
theorem Run.next {w wr wx : World} {b : Nat} {U : Nat → Prop} {s s' : SS} (h : Run w wr b U s) (hN : Nx wr wx w.heap.size U b s') : Run w wx b (gr U wr wx) s' := ⟨hN.sh, h.bel.trans hN.fr.bel⟩
theorem Run.out {w wr wx : World} {b g : Nat} {U : Nat → Prop} {s : SS} (h : Run w wr b U s) (hg : g < wr.heap.size) (hn : ¬ U g) : ¬ gr U wr wx g := fun e => by
  rcases e with e | e
  · exact hn e
  · omega
theorem actS_n (s : SS) (a : Actn) : (actS s a).n = s.n := by
  unfold actS
  split
  · unfold doS; split <;> rfl
  · rfl
  · rfl
  · unfold snS; split <;> rfl
  · rfl
  · unfold roS; split <;> rfl
  · rfl
  · rfl
theorem act_0 {s : SS} {a : Actn} (h : a.kd % 8 = 0) : actS s a = doS s a.op ∧ actE s a = doE s a.op := by unfold actS actE; rw [h]; exact ⟨rfl, rfl⟩
theorem act_1 {s : SS} {a : Actn} (h : a.kd % 8 = 1) : actS s a = setS s s.now ∧ actE s a = 0 := by unfold actS actE; rw [h]; exact ⟨rfl, rfl⟩
theorem act_2 {s : SS} {a : Actn} (h : a.kd % 8 = 2) : actS s a = { s with frz := a.yes } ∧ actE s a = 0 := by unfold actS actE; rw [h]; exact ⟨rfl, rfl⟩
theorem act_3 {s : SS} {a : Actn} (h : a.kd % 8 = 3) : actS s a = snS s a.id ∧ actE s a = snE s a.id := by unfold actS actE; rw [h]; exact ⟨rfl, rfl⟩
theorem act_4 {s : SS} {a : Actn} (h : a.kd % 8 = 4) : actS s a = deS s a.id ∧ actE s a = deE s a.id := by unfold actS actE; rw [h]; exact ⟨rfl, rfl⟩
theorem act_5 {s : SS} {a : Actn} (h : a.kd % 8 = 5) : actS s a = roS s a.id ∧ actE s a = roE s a.id := by unfold actS actE; rw [h]; exact ⟨rfl, rfl⟩
theorem act_6 {s : SS} {a : Actn} (h : a.kd % 8 = 6) : actS s a = crS s a.keep ∧ actE s a = 0 := by unfold actS actE; rw [h]; exact ⟨rfl, rfl⟩
theorem act_7 {s : SS} {a : Actn} (h : a.kd % 8 = 7) : actS s a = s ∧ actE s a = 0 := by unfold actS actE; rw [h]; exact ⟨rfl, rfl⟩
theorem snS_now (s : SS) (id : Int) : (snS s id).now = s.now ∧ (snS s id).frz = s.frz := by
  unfold snS
  by_cases h : snE s id = 0
  · rw [if_pos h]; exact ⟨rfl, rfl⟩
  · rw [if_neg h]; exact ⟨rfl, rfl⟩
theorem doS_frz {s : SS} (h : s.frz = true) (o : BOp) : doE s o ≠ 0 ∧ doS s o = s := by
  have hd : doE s o ≠ 0 := by
    unfold doE
    rw [h]
    by_cases hr : o.right s.n = true
    · rw [if_pos hr]; simp
    · rw [if_neg hr]; decide
  exact ⟨hd, by unfold doS; rw [if_neg hd]⟩
theorem roS_frz {s : SS} (h : s.frz = true) (id : Int) : roE s id ≠ 0 ∧ roS s id = s := by
  have hd : roE s id ≠ 0 := by
    unfold roE
    rw [h]
    by_cases hr : hasS s id = true
    · rw [if_pos hr]; simp
    · rw [if_neg hr]; decide
  exact ⟨hd, by unfold roS; rw [if_neg hd]⟩
theorem kd_test {kd r : Nat} (hr : kd % 8 = r) (j : Int) : ((kd : Int) % 8 == j) = decide (j = (r : Int)) := by
  have e : (kd : Int) % 8 = (r : Int) := by omega
  rw [e]
  by_cases q : j = (r : Int)
  · subst q; simp
  · rw [decide_eq_false q]; simpa using fun h => q h.symm
/-- A row that was answered, beside a shard. -/
structure Kept (wr : World) (U : Nat → Prop) (A : Option Addr) (m c : Nat) (v : List Nat) : Prop where
  got : GotN wr 0 A m c v
  out : ∀ g, (Value.slice A m c).ownBlock = some g → ¬ U g
theorem Kept.below {wr wx : World} {U : Nat → Prop} {A : Option Addr} {m c : Nat} {v : List Nat} (h : Kept wr U A m c v) (hb : Below wr.heap.size wr wx) : Kept wx U A m c v := ⟨h.got.keep hb, h.out⟩
theorem Kept.next {wr wx : World} {B : Nat} {U : Nat → Prop} {A : Option Addr} {m c : Nat} {v : List Nat} (h : Kept wr U A m c v) (hf : Fr B U wr wx) : Kept wx (gr U wr wx) A m c v :=
  ⟨⟨own_fr h.got.own hf h.out fot_u64, h.got.low⟩, fun g hg e => by
    have := (h.got.own.lt g hg).2
    rcases e with e | e
    · exact h.out g hg e
    · omega⟩
theorem Kept.of {w wr : World} {B0 : Nat} {U : Nat → Prop} {A : Option Addr} {m c : Nat} {v : List Nat} (h : GotN wr B0 A m c v) (hU : ∀ j, U j → j < B0) : Kept wr U A m c v :=
  ⟨⟨own_mono h.own (Nat.zero_le _), h.low⟩, fun g hg e => by
    have := (h.own.lt g hg).1
    have := hU g e
    omega⟩
theorem Kept.ns {wr : World} {U : Nat → Prop} {A : Option Addr} {m c : Nat} {v : List Nat} (h : Kept wr U A m c v) : Ns wr A m v := h.got.ns
theorem all_take {v : List Nat} {n : Nat} (h : v.length = n) : (v.drop 0).take n = v := by rw [List.drop_zero]; exact List.take_of_length_le (by omega)
/-- All of it, read. -/
theorem Run.read {w wr : World} {b : Nat} {U : Nat → Prop} {s : SS} (h : Run w wr b U s) {n : Nat} (hn : s.n = n) : Calls Try.prog 10 #[.pointer (some ⟨b, 0, none⟩), .int .i64 0, .int .i64 (n : Int)] wr fun e w' => AnsN wr w' e 0 s.now := by
  have := sread_ wr w.heap.size b U s h.sh 0 s.n (span_all _)
  rw [all_take h.sh.ok.now, hn] at this
  exact this
theorem Run.look {w wr : World} {b : Nat} {U : Nat → Prop} {s : SS} (h : Run w wr b U s) {n : Nat} (hn : s.n = n) (id : Int) (hid : hasS s id = true) : Calls Try.prog 12 #[.pointer (some ⟨b, 0, none⟩), .int .i64 id, .int .i64 0, .int .i64 (n : Int)] wr fun e w' => AnsN wr w' e 0 (lookS s id) := by
  have := slook_ wr w.heap.size b U s h.sh id hid 0 s.n (span_all _)
  rw [all_take (h.sh.ok.look_length id), hn] at this
  exact this
/-- A call of the script. -/
theorem Run.does {w wr wx : World} {b : Nat} {U : Nat → Prop} {s : SS} (h : Run w wr b U s) (hb : Below wr.heap.size wr wx) {a : Actn} {X : Option Addr} {m c : Nat} {K : Option Addr} {kn kc : Nat} (ha : ∀ w', Below w.heap.size w w' → Aat w' a X m c K kn kc) :
    Calls Try.prog 11 #[.pointer (some ⟨b, 0, none⟩), .agg (actC a X m c K kn kc)] wx fun e w' => e = .returned (.int .i64 (actE s a)) ∧ Nx wx w' w.heap.size U b (actS s a) := by
  have hx := h.below hb
  exact does_ wx w.heap.size b U s hx.sh a X m c K kn kc (ha wx hx.bel) (fun w' hf => (ha w' (hx.bel.trans hf.bel)).keep)
/-- The variable of a round. -/
theorem act_var (wr : World) (a : Actn) (X : Option Addr) (m c : Nat) (K : Option Addr) (kn kc : Nat) : Below wr.heap.size wr (wr.alloc (.cells (actC a X m c K kn kc) 34)) ∧ Blk (wr.alloc (.cells (actC a X m c K kn kc) 34)) wr.heap.size 34 (actC a X m c K kn kc) :=
  ⟨(Below.refl _ _).alloc (Nat.le_refl _) _, Blk.new _ _ _ rfl⟩
theorem fot_act : ¬ FoT 34 := by unfold FoT; decide
end Sha
end Go.Proofs.Ytfcfffilfmbpeaa
