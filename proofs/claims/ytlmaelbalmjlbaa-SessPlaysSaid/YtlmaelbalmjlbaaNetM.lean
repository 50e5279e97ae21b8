/- Layer 15: the mathematics of messages' bytes and of bags: what is packed is unpacked, bytes tell one message alone, a byte that was turned is found. Nothing of the program is named here. -/
import Derived.Test.YtlmaelbalmjlbaaStrM
set_option linter.all false
namespace Go.Proofs.Ytlmaelbalmjlbaa.Net
open Str (far sealL sealL_length okSum_seal seal_take seal_of_ok readN readN_length readN_lt readN_nums nums_readN W64)

/-- A message. -/
structure Ms where
  fr : Int
  to : Int
  k : Int
  ep : Int
  sq : Int
  ac : Int
  d : List UInt8
deriving DecidableEq
def zM : Ms := ⟨0, 0, 0, 0, 0, 0, []⟩
/-- Is it a message? -/
def MayM (m : Ms) : Prop := far m.k ∧ far m.ep ∧ far m.sq ∧ far m.ac ∧ (0 ≤ m.fr ∧ m.fr < 16) ∧ (0 ≤ m.to ∧ m.to < 16) ∧ m.d.length ≤ 1200
instance (m : Ms) : Decidable (MayM m) := by unfold MayM; infer_instance
/-- The numbers ahead of its load. -/
def heads (m : Ms) : List Nat := [m.fr.toNat, m.to.toNat, m.k.toNat, m.ep.toNat, m.sq.toNat, m.ac.toNat]
def bodyM (m : Ms) : List UInt8 := numsBytes (heads m) ++ partBytes m.d
/-- A message's bytes. -/
def msgB (m : Ms) : List UInt8 := sealL (bodyM m)
def packE (m : Ms) : Int := if MayM m then 0 else 1
def packL (m : Ms) : List UInt8 := if MayM m then msgB m else []
theorem bodyM_length (m : Ms) : (bodyM m).length = 56 + m.d.length := by
  simp only [bodyM, List.length_append, numsBytes_length, partBytes_length, heads, List.length_cons, List.length_nil]; omega
theorem msgB_length (m : Ms) : (msgB m).length = 60 + m.d.length := by rw [msgB, sealL_length, bodyM_length]; omega
/-- The message that numbers tell. -/
def msgOf (y : List UInt8) : Ms := ⟨numAt y, numAt (y.drop 8), numAt (y.drop 16), numAt (y.drop 24), numAt (y.drop 32), numAt (y.drop 40), (y.drop 56).take (numAt (y.drop 48))⟩
/-- Are bytes a message's body? -/
def FormM (y : List UInt8) : Prop := 56 ≤ y.length ∧ y.length = 56 + numAt (y.drop 48) ∧ MayM (msgOf y)
instance (y : List UInt8) : Decidable (FormM y) := by unfold FormM; infer_instance
/-- What is wrong with bytes: 4 the sum, 5 the form. -/
def unE (x : List UInt8) : Int := if okSum x = true then (if FormM (x.take (x.length - 4)) then 0 else 5) else 4
/-- The message that bytes tell. -/
def unV (x : List UInt8) : Ms := if unE x = 0 then msgOf (x.take (x.length - 4)) else zM
theorem heads_lt {m : Ms} (h : MayM m) : W64 (heads m) := by
  obtain ⟨⟨_, h1⟩, ⟨_, h2⟩, ⟨_, h3⟩, ⟨_, h4⟩, ⟨_, h5⟩, ⟨_, h6⟩, _⟩ := h
  intro x hx
  simp only [heads, List.mem_cons, List.not_mem_nil, or_false] at hx
  rcases hx with rfl | rfl | rfl | rfl | rfl | rfl <;> omega
theorem heads_read (y : List UInt8) : readN 6 y = [numAt y, numAt (y.drop 8), numAt (y.drop 16), numAt (y.drop 24), numAt (y.drop 32), numAt (y.drop 40)] := by
  simp only [readN, List.drop_drop]
theorem msgOf_body (m : Ms) (h : MayM m) : msgOf (bodyM m) = m ∧ numAt ((bodyM m).drop 48) = m.d.length := by
  have e8 : readN 6 (bodyM m) = heads m := readN_nums (heads m) _ (heads_lt h)
  rw [heads_read] at e8
  simp only [heads, List.cons.injEq, and_true] at e8
  obtain ⟨a0, a1, a2, a3, a4, a5⟩ := e8
  have hd : (bodyM m).drop 48 = partBytes m.d := List.drop_left' (by rw [numsBytes_length]; rfl)
  obtain ⟨⟨h1, _⟩, ⟨h2, _⟩, ⟨h3, _⟩, ⟨h4, _⟩, ⟨h5, _⟩, ⟨h6, _⟩, h7⟩ := h
  have a6 : numAt ((bodyM m).drop 48) = m.d.length := by rw [hd, partBytes, numAt_numBytes _ (by omega)]
  have hd2 : (bodyM m).drop 56 = m.d := by
    rw [show (56 : Nat) = 48 + 8 from rfl, ← List.drop_drop, hd, partBytes]
    exact List.drop_left' (numBytes_length _)
  refine ⟨?_, a6⟩
  unfold msgOf
  rw [a0, a1, a2, a3, a4, a5, a6, hd2, List.take_length]
  cases m
  simp only [Ms.mk.injEq, and_true] at *
  omega
/-- What is packed is unpacked. -/
theorem un_pack {m : Ms} (h : MayM m) : unE (msgB m) = 0 ∧ unV (msgB m) = m := by
  have h0 := msgOf_body m h
  have he : unE (msgB m) = 0 := by
    unfold unE msgB
    rw [okSum_seal, if_pos rfl, seal_take]
    exact if_pos ⟨by rw [bodyM_length]; omega, by rw [bodyM_length, h0.2], by rw [h0.1]; exact h⟩
  refine ⟨he, ?_⟩
  unfold unV
  rw [if_pos he]
  unfold msgB
  rw [seal_take]
  exact h0.1
theorem unE_cases (x : List UInt8) : unE x = 0 ∨ unE x = 5 ∨ unE x = 4 := by
  unfold unE
  split
  · split
    · exact .inl rfl
    · exact .inr (.inl rfl)
  · exact .inr (.inr rfl)
theorem unV_no {x : List UInt8} (h : ¬ unE x = 0) : unV x = zM := by unfold unV; rw [if_neg h]
theorem body_form {y : List UInt8} (h : FormM y) : bodyM (msgOf y) = y := by
  obtain ⟨h56, hl, hm⟩ := h
  have ha : numsBytes (readN 6 y) = y.take 48 := nums_readN 6 y (by omega)
  have hh : heads (msgOf y) = readN 6 y := by
    rw [heads_read]
    simp only [heads, msgOf, Int.toNat_natCast]
  have hd : (msgOf y).d = y.drop 56 := List.take_of_length_le (by rw [List.length_drop]; omega)
  have hp : partBytes (y.drop 56) = y.drop 48 := by
    have hlen : (y.drop 56).length = numAt (y.drop 48) := by rw [List.length_drop]; omega
    rw [partBytes, hlen, numBytes_numAt _ (by rw [List.length_drop]; omega)]
    rw [show (56 : Nat) = 48 + 8 from rfl, ← List.drop_drop, List.take_append_drop]
  rw [bodyM, hh, ha, hd, hp, List.take_append_drop]
/-- What is unpacked is packed to the same bytes. -/
theorem pack_un {x : List UInt8} (h : unE x = 0) : MayM (unV x) ∧ msgB (unV x) = x := by
  have hv : unV x = msgOf (x.take (x.length - 4)) := by unfold unV; rw [if_pos h]
  unfold unE at h
  by_cases ho : okSum x = true
  · rw [if_pos ho] at h
    by_cases hf : FormM (x.take (x.length - 4))
    · rw [hv]
      exact ⟨hf.2.2, by rw [msgB, body_form hf]; exact (seal_of_ok x ho).symm⟩
    · rw [if_neg hf] at h; cases h
  · rw [if_neg ho] at h; cases h
theorem pack_yes {m : Ms} (h : MayM m) : packE m = 0 ∧ packL m = msgB m := ⟨if_pos h, if_pos h⟩
theorem pack_no {m : Ms} (h : ¬ MayM m) : packE m = 1 ∧ packL m = [] := ⟨if_neg h, if_neg h⟩
/-- A byte that was turned is found. -/
theorem un_turned {m : Ms} {k : Nat} (hk : k < (msgB m).length) {y : UInt8} (hy : y ≠ 0) : unE ((msgB m).set k ((msgB m)[k] ^^^ y)) = 4 := by
  have h : okSum ((msgB m).set k ((msgB m)[k] ^^^ y)) = false := by
    have := okSum_set (bodyM m) k ((msgB m)[k] ^^^ y) hk
    unfold msgB sealL at *
    rw [this, decide_eq_false_iff_not, xor_self_iff]
    exact hy
  unfold unE
  rw [h, if_neg Bool.false_ne_true]

/-! ### bags -/
/-- A datagram in a bag. -/
structure Gr where
  b : List UInt8
  s : Bool
def hasB (l : List Gr) (i : Int) : Bool := decide (0 ≤ i) && decide (i < (l.length : Int))
theorem has_iff {l : List Gr} {i : Int} : hasB l i = true ↔ 0 ≤ i ∧ i < (l.length : Int) := by simp [hasB]
/-- How many came; the bag behind it. -/
def putN (l : List Gr) (gs : List (List UInt8)) : Nat := min gs.length (256 - l.length)
def putS (l : List Gr) (gs : List (List UInt8)) : List Gr := l ++ (gs.take (256 - l.length)).map fun b => ⟨b, false⟩
def zG : Gr := ⟨[], false⟩
def getG (l : List Gr) (i : Int) : Gr := l.getD i.toNat zG
def takE (l : List Gr) (i : Int) : Int := if hasB l i then 0 else 9
def takG (l : List Gr) (i : Int) : Gr := if hasB l i then getG l i else zG
def takS (l : List Gr) (i : Int) : List Gr := if hasB l i then l.eraseIdx i.toNat else l
def twiE (l : List Gr) (i : Int) : Int := if hasB l i then (if 256 ≤ l.length then 6 else 0) else 9
def twiS (l : List Gr) (i : Int) : List Gr := if hasB l i then (if 256 ≤ l.length then l else l ++ [getG l i]) else l
/-- Which byte it is. -/
def atN (n : Nat) (z : Int) : Nat := ((z.tmod n + n).tmod n).toNat
def turnB (b : List UInt8) (z : Int) (y : UInt8) : List UInt8 := b.set (atN b.length z) (b.getD (atN b.length z) 0 ^^^ y)
def turE (l : List Gr) (i at_ : Int) (y : UInt8) : Int :=
  if hasB l i then (if (getG l i).s then 10 else if (getG l i).b.length = 0 ∨ y = 0 then 1 else 0) else 9
def turS (l : List Gr) (i at_ : Int) (y : UInt8) : List Gr :=
  if turE l i at_ y = 0 then l.set i.toNat ⟨turnB (getG l i).b at_ y, true⟩ else l
theorem atN_lt {n : Nat} (h : 0 < n) (z : Int) : atN n z < n := by
  unfold atN
  have h1 := tmod_bounds z n h
  have h2 := Int.tmod_nonneg (n : Int) (show 0 ≤ z.tmod n + n by omega)
  have h3 := Int.tmod_lt_of_pos (z.tmod n + n) (show (0 : Int) < n by omega)
  omega
theorem get_has {l : List Gr} {i : Int} (h : hasB l i = true) : l[i.toNat]? = some (getG l i) := by
  have := has_iff.1 h
  have hl : i.toNat < l.length := by omega
  rw [getG, List.getD, List.getElem?_eq_getElem hl]
  rfl
theorem get_mem {l : List Gr} {i : Int} (h : hasB l i = true) : getG l i ∈ l := List.mem_of_getElem? (get_has h)
/-- Of messages alone: each that is not spoilt is one that was put, a spoilt one is one of a message, with a byte turned. -/
def Good (put : List Ms) (g : Gr) : Prop :=
  (g.s = false → ∃ m ∈ put, MayM m ∧ g.b = msgB m) ∧
  (g.s = true → ∃ m k y, k < (msgB m).length ∧ y ≠ 0 ∧ g.b = (msgB m).set k ((msgB m).getD k 0 ^^^ y))
def AllGood (put : List Ms) (l : List Gr) : Prop := ∀ g ∈ l, Good put g
theorem Good.un {put : List Ms} {g : Gr} (h : Good put g) (hs : g.s = false) : unE g.b = 0 ∧ unV g.b ∈ put := by
  obtain ⟨m, hm, hmay, e⟩ := h.1 hs
  rw [e]
  obtain ⟨h1, h2⟩ := un_pack hmay
  exact ⟨h1, by rw [h2]; exact hm⟩
theorem Good.bad {put : List Ms} {g : Gr} (h : Good put g) (hs : g.s = true) : unE g.b = 4 := by
  obtain ⟨m, k, y, hk, hy, e⟩ := h.2 hs
  rw [e, List.getD, List.getElem?_eq_getElem hk]
  exact un_turned hk hy
theorem Good.more {put put' : List Ms} {g : Gr} (h : Good put g) (hp : ∀ m ∈ put, m ∈ put') : Good put' g :=
  ⟨fun hs => by obtain ⟨m, hm, h1⟩ := h.1 hs; exact ⟨m, hp m hm, h1⟩, h.2⟩
theorem good_nil (put : List Ms) : AllGood put [] := by intro g h; cases h
theorem good_put {put : List Ms} {l : List Gr} (h : AllGood put l) {m : Ms} (hm : MayM m) : AllGood (put ++ [m]) (putS l [msgB m]) := by
  intro g hg
  rcases List.mem_append.1 hg with hg | hg
  · exact (h g hg).more fun x hx => List.mem_append_left _ hx
  · obtain ⟨b, hb, rfl⟩ := List.mem_map.1 hg
    have hb := List.mem_singleton.1 (List.mem_of_mem_take hb)
    subst hb
    exact ⟨fun _ => ⟨m, by simp, hm, rfl⟩, fun e => by cases e⟩
theorem put_none {l : List Gr} {b : List UInt8} (h : putN l [b] ≠ 1) : putS l [b] = l := by
  unfold putN at h
  have : 256 - l.length = 0 := by simp at h; omega
  unfold putS
  rw [this]
  simp
theorem put_one {l : List Gr} {b : List UInt8} (h : putN l [b] = 1) : l.length < 256 := by
  unfold putN at h
  simp at h
  omega
theorem good_take {put : List Ms} {l : List Gr} (h : AllGood put l) (i : Int) : AllGood put (takS l i) := by
  intro g hg
  unfold takS at hg
  split at hg
  · exact h g (List.mem_of_mem_eraseIdx hg)
  · exact h g hg
theorem good_twice {put : List Ms} {l : List Gr} (h : AllGood put l) (i : Int) : AllGood put (twiS l i) := by
  intro g hg
  unfold twiS at hg
  split at hg
  · rename_i hh
    split at hg
    · exact h g hg
    · rcases List.mem_append.1 hg with hg | hg
      · exact h g hg
      · rw [List.mem_singleton.1 hg]; exact h _ (get_mem hh)
  · exact h g hg
theorem turE_ok {l : List Gr} {i z : Int} {y : UInt8} (h : turE l i z y = 0) : hasB l i = true ∧ (getG l i).s = false ∧ 0 < (getG l i).b.length ∧ y ≠ 0 := by
  unfold turE at h
  by_cases h1 : hasB l i = true
  · rw [if_pos h1] at h
    cases h2 : (getG l i).s with
    | true => rw [h2, if_pos rfl] at h; cases h
    | false =>
      rw [h2, if_neg Bool.false_ne_true] at h
      by_cases h3 : (getG l i).b.length = 0 ∨ y = 0
      · rw [if_pos h3] at h; cases h
      · exact ⟨h1, rfl, by have := fun e => h3 (.inl e); omega, fun e => h3 (.inr e)⟩
  · rw [if_neg h1] at h; cases h
theorem good_turn {put : List Ms} {l : List Gr} (h : AllGood put l) (i z : Int) (y : UInt8) : AllGood put (turS l i z y) := by
  intro g hg
  unfold turS at hg
  split at hg
  · rename_i he
    obtain ⟨h1, h2, h3, h4⟩ := turE_ok he
    rcases List.mem_or_eq_of_mem_set hg with hg | hg
    · exact h g hg
    · subst hg
      obtain ⟨m, _, _, e⟩ := (h _ (get_mem h1)).1 h2
      refine ⟨fun e => (by cases e), fun _ => ⟨m, atN (getG l i).b.length z, y, ?_, h4, ?_⟩⟩
      · rw [← e]; exact atN_lt h3 z
      · rw [← e]; rfl
  · exact h g hg
theorem size_put (l : List Gr) (gs : List (List UInt8)) : (putS l gs).length = l.length + putN l gs := by
  unfold putS putN
  rw [List.length_append, List.length_map, List.length_take]
  omega
theorem take_of {l : List Gr} {i : Int} (h : hasB l i = true) : takE l i = 0 ∧ takG l i = getG l i ∧ takS l i = l.take i.toNat ++ l.drop (i.toNat + 1) := by
  refine ⟨if_pos h, if_pos h, ?_⟩
  unfold takS
  rw [if_pos h, List.eraseIdx_eq_take_drop_succ]
theorem take_no {l : List Gr} {i : Int} (h : hasB l i = false) : takE l i = 9 ∧ takG l i = zG ∧ takS l i = l := by
  unfold takE takG takS
  rw [h]
  exact ⟨rfl, rfl, rfl⟩
end Go.Proofs.Ytlmaelbalmjlbaa.Net
