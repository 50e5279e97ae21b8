/- Layer 12: the statements' arguments: scripts. -/
import Derived.Test.YtfcfffilfmbpeaaShaO
set_option linter.all false
namespace Go.Proofs.Ytfcfffilfmbpeaa
open Go.ChangeShapes Go.WideShapes Go.ChangeAt Go.RowKit
namespace Sha
open Blo (vol fun_ GotN AnsN Dat FitB OpV opShp toOp op_is iShp ops_int ops_op)

abbrev blShp : Shp (List Bool) := Shp.slice Shp.bool 1
abbrev ActV : Type := UInt8 × OpV × Int × Bool × List Bool × Unit
def actShp : Shp ActV := Shp.agg (Shp.pair Shp.u8 (Shp.pair opShp (Shp.pair iShp (Shp.pair Shp.bool (Shp.pair blShp Shp.unit)))))
def toAct (v : ActV) : Actn := ⟨v.1.toNat, toOp v.2.1, v.2.2.1, v.2.2.2.1, v.2.2.2.2.1⟩
theorem bl_of {w : World} {A : Option Addr} {n c : Nat} {l : List Bool} (h : blShp.R w [.slice A n c] l) : Rd w A 1 n (bls l) ∧ n ≤ 9223372036854775807 := by
  obtain ⟨A', c', e, h1, h2, h3, h4, h5⟩ := h
  simp only [List.cons.injEq, Value.slice.injEq, and_true] at e
  obtain ⟨rfl, rfl, rfl⟩ := e
  refine ⟨⟨by simp [bls], fun j u hu => ?_⟩, by omega⟩
  have hj : j < l.length := by have := (List.getElem?_eq_some_iff.1 hu).1; simpa [bls] using this
  obtain ⟨b, o, vs, rfl, hl, hc, hr⟩ := h5 j hj
  have hr : vs = [.bool l[j]] := hr
  subst hr
  refine ⟨b, o, rfl, ?_⟩
  have := hc 0 _ rfl
  simp only [Shp.bool, Nat.mul_one, Nat.add_zero] at this
  rw [this, ← hu]
  simp [bls, List.getElem?_eq_getElem hj]
theorem act_is {w : World} {cs : List Value} {a : ActV} (h : actShp.R w cs a) : ∃ X m c K kn kc, cs = (actC (toAct a) X m c K kn kc).toList ∧ Aat w (toAct a) X m c K kn kc := by
  obtain ⟨c1, r1, rfl, hl1, h1, c2, r2, rfl, hl2, h2, c3, r3, rfl, hl3, ⟨h3, b3⟩, c4, r4, rfl, hl4, h4, c5, r5, rfl, hl5, h5, h6⟩ := h
  have h1 : c1 = [.int .u8 (a.1.toNat : Int)] := h1
  have h4 : c4 = [.bool a.2.2.2.1] := h4
  have h6 : r5 = [] := h6
  subst h1 h3 h4 h6
  obtain ⟨X, m, c, rfl, hd⟩ := op_is h2
  have h5' : blShp.R w c5 a.2.2.2.2.1 := h5
  obtain ⟨K, kc, e, _⟩ := h5
  subst e
  obtain ⟨k1, k2⟩ := bl_of h5'
  refine ⟨X, m, c, K, _, kc, rfl, ⟨?_, hd, b3, k1, k2⟩⟩
  have := a.1.toNat_lt
  simpa [toAct] using this
theorem act_arr {w : World} {cs : Array Value} {a : ActV} (h : actShp.R w cs.toList a) : ∃ X m c K kn kc, cs = actC (toAct a) X m c K kn kc ∧ Aat w (toAct a) X m c K kn kc := by
  obtain ⟨X, m, c, K, kn, kc, e, ha⟩ := act_is h
  exact ⟨X, m, c, K, kn, kc, Array.toList_inj.1 e, ha⟩
/-- The call k of a script, in a later world. -/
theorem acts_later {W w : World} {S : Option Addr} {n c : Nat} {l : List ActV} (h : (Shp.slice actShp 96).R W [.slice S n c] l) (hb : Below W.heap.size W w) {k : Nat} (hk : k < n) :
    ∃ b o X m cc K kn kc, ∃ a : Actn, S = some ⟨b, o, none⟩ ∧ (∀ j u, (actC a X m cc K kn kc)[j]? = some u → w.cell? ⟨b, o + k * 8 + j, none⟩ = some u) ∧ (∀ w', Below W.heap.size W w' → Aat w' a X m cc K kn kc) := by
  obtain ⟨A', c', e, h1, h2, h3, h4, h5⟩ := h
  simp only [List.cons.injEq, Value.slice.injEq, and_true] at e
  obtain ⟨rfl, rfl, rfl⟩ := e
  obtain ⟨b, o, vs, rfl, hl, hc, hr⟩ := h5 k hk
  obtain ⟨X, m, cc, K, kn, kc, rfl, ha⟩ := act_is hr
  have e8 : actShp.n = 8 := rfl
  rw [e8] at hc
  exact ⟨b, o, X, m, cc, K, kn, kc, toAct l[k], rfl, fun j u hu => (hb.cell (cell_lt (hc j u (by simpa using hu)))).trans (hc j u (by simpa using hu)), fun w' hw => ha.below hw⟩
theorem acts_len {w : World} {A : Option Addr} {n c : Nat} {l : List ActV} (h : (Shp.slice actShp 96).R w [.slice A n c] l) : n ≤ 9223372036854775807 := by
  obtain ⟨A', c', e, h1, h2, h3, h4, h5⟩ := h
  simp only [List.cons.injEq, Value.slice.injEq, and_true] at e
  obtain ⟨rfl, rfl, rfl⟩ := e
  omega
theorem ops_bool : Opens Try.prog 4 Shp.bool := opens_bool Try.underlying4 (by kernel_rfl)
theorem ops_bools : Opens Try.prog 32 blShp := opens_slice 1 Try.underlying32 (by kernel_rfl) (by kernel_rfl) (by decide) ops_bool
theorem ops_act : Opens Try.prog 34 actShp :=
  opens_struct Try.underlying34 (by kernel_rfl) (opensF_cons (opens_u8 Try.underlying5 (by kernel_rfl)) rfl (opensF_cons ops_op rfl (opensF_cons ops_int rfl (opensF_cons ops_bool rfl (opensF_cons ops_bools rfl (opensF_nil _))))))
theorem ops_acts : Opens Try.prog 22 (Shp.slice actShp 96) := opens_slice 96 Try.underlying22 (by kernel_rfl) (by kernel_rfl) (by decide) ops_act
/-- 'n & 63'. -/
theorem and63 (z : Int) : ∃ r : Nat, bits .and .i64 z 63 = (r : Int) ∧ r ≤ 63 := by
  have h : ∀ q : Nat, q ≤ 63 → IntKind.i64.wrap (q : Int) = (q : Int) := fun q hq => by rw [IntKind.wrap_i64]; omega
  unfold bits
  simp only [BitVec.toNat_and, BitVec.toNat_ofInt]
  have e : ((63 : Int) % ((2 ^ IntKind.i64.bits : Nat) : Int)).toNat = 63 := by decide
  rw [e, h _ Nat.and_le_right]
  exact ⟨_, rfl, Nat.and_le_right⟩
end Sha
end Go.Proofs.Ytfcfffilfmbpeaa
