/- Layer 15: messages as they lie in memory; fit, may; both equalities. -/
import Derived.Test.YtallbhdfbkkjkaaNetN
import Derived.Test.YtallbhdfbkkjkaaTurn
import Derived.Test.YtallbhdfbkkjkaaFn
import Derived.Test.YtallbhdfbkkjkaaStep
import Derived.Test.YtallbhdfbkkjkaaSumWb
import Derived.Test.YtallbhdfbkkjkaaPackT
import Derived.Test.YtallbhdfbkkjkaaPackWb
import Derived.Deep.RegionHeld3
import Derived.Deep.RegionLaw
import Derived.BigQuiet
set_option linter.all false
namespace Go.Proofs.Ytallbhdfbkkjkaa
open Go.RowKit
namespace Net
open Str (far)

def I64 (z : Int) : Prop := -9223372036854775808 ≤ z ∧ z ≤ 9223372036854775807
/-! ### rows of ints -/
def ivs (l : List Int) : List Value := l.map fun z => Value.int .i64 z
def Is (w : World) (A : Option Addr) (n : Nat) (l : List Int) : Prop := Rd w A 1 n (ivs l) ∧ ∀ z ∈ l, I64 z
theorem Is.len {w : World} {A : Option Addr} {n : Nat} {l : List Int} (h : Is w A n l) : n = l.length := by
  have := h.1.1; simp [ivs] at this; omega
theorem Is.get {w : World} {A : Option Addr} {n : Nat} {l : List Int} (h : Is w A n l) {k : Nat} (hk : k < n) : ∃ b o x, A = some ⟨b, o, none⟩ ∧ l[k]? = some x ∧ I64 x ∧ w.cell? ⟨b, o + k, none⟩ = some (.int .i64 x) := by
  obtain ⟨b, o, e, hx, hc⟩ := Rd.at_ h.1 hk
  have hx' : k < l.length := by simpa [ivs] using hx
  exact ⟨b, o, l[k], e, List.getElem?_eq_getElem hx', h.2 _ (List.getElem_mem hx'), by simpa [ivs] using hc⟩
theorem Is.new (w : World) (l : List Int) (h : ∀ z ∈ l, I64 z) (t : TypeId) {g : Nat} (hg : g = w.heap.size) {C : Array Value} (hC : C = (ivs l).toArray) {n : Nat} (hn : n = l.length) : Is (w.alloc (.cells C t)) (some ⟨g, 0, none⟩) n l := by
  subst hg hC hn
  have := Rd.new w (ivs l).toArray t (0, 0) (sz := 1) (n := l.length) (by simp [ivs])
  exact ⟨by simpa using this, h⟩
theorem Is.below {w w' : World} {A : Option Addr} {n : Nat} {l : List Int} (h : Is w A n l) (hb : Below w.heap.size w w') : Is w' A n l := ⟨Rd.below h.1 hb, h.2⟩
def okB (most : Int) (z : Int) : Bool := decide (0 ≤ z ∧ z ≤ most)
theorem drop_of {α : Type} {l : List α} {k : Nat} {x : α} (h : l[k]? = some x) : l.drop k = x :: l.drop (k + 1) := by
  obtain ⟨hk, rfl⟩ := List.getElem?_eq_some_iff.1 h
  exact List.drop_eq_getElem_cons hk
theorem all_at {α : Type} {p : α → Bool} {l : List α} {k : Nat} {x : α} (h : l[k]? = some x) : (l.drop k).all p = (p x && (l.drop (k + 1)).all p) := by
  rw [drop_of h, List.all_cons]
section
variable (w : World)
set_option maxRecDepth 100000 in
set_option maxHeartbeats 1000000 in
theorem fit_ (most : Int) (A : Option Addr) (n c : Nat) (l : List Int) (h : Is w A n l) (hn : n ≤ 9223372036854775807) : Calls Try.prog 51 #[.int .i64 most, .slice A n c] w fun e w' => e = .returned (.bool (l.all (okB most))) ∧ w = w' := by
  have Hl := Lib.hid h.len
  go_enter Try.func51, Try.ntmps51
  go_wp2_with fail
  go_loopw [9] (fun iv wr => ∃ i : Nat, i ≤ n ∧ iv = .int .i64 (i : Int) ∧ (l.drop i).all (okB most) = l.all (okB most) ∧ wr = w) (fun iv _ => n - (intOf iv).toNat)
  case atStart => exact ⟨0, Nat.zero_le _, rfl, rfl, rfl⟩
  case round =>
    obtain ⟨i, hi, rfl, hL, rfl⟩ := hrel
    by_cases hlt : i < n
    · have hil : (i : Int) < (n : Int) := by omega
      have hi0 : (0 : Int) ≤ (i : Int) := by omega
      obtain ⟨b, o, x, rfl, hx, hxi, cx⟩ := h.get hlt
      rw [all_at hx] at hL
      clear hx h
      by_cases h0 : x < 0
      · have HB := Lib.hid (show l.all (okB most) = false by rw [← hL]; simp [okB]; omega)
        clear hL
        go_wp2
        go_ret
        rw [HB.out]
        exact ⟨rfl, rfl⟩
      · by_cases h1 : most < x
        · have HB := Lib.hid (show l.all (okB most) = false by rw [← hL]; simp [okB]; omega)
          clear hL
          go_wp2
          go_ret
          rw [HB.out]
          exact ⟨rfl, rfl⟩
        · have HL := Lib.hid (show (l.drop (i + 1)).all (okB most) = l.all (okB most) by rw [← hL, show okB most x = true by simp [okB]; omega]; rfl)
          clear hL
          go_wp2
          go_roundw
          case rel => exact ⟨i + 1, by omega, by go_num, HL.out, trivial⟩
          case measure => simp [intOf]; omega
    · have hin : (n : Int) ≤ (i : Int) := by omega
      have HB := Lib.hid (show l.all (okB most) = true by rw [← hL, List.drop_of_length_le (by have := Hl.out; omega)]; rfl)
      clear hL
      go_wp2
      go_ret
      rw [HB.out]
      exact ⟨rfl, rfl⟩
end

/-! ### messages in memory -/
structure FitS (m : Ms) : Prop where
  fr : I64 m.fr
  to : I64 m.to
  k : I64 m.k
  ep : I64 m.ep
  sq : I64 m.sq
  ac : I64 m.ac
abbrev ma (m : Ms) (v : Value) : Array Value := #[.int .i64 m.fr, .int .i64 m.to, .int .i64 m.k, .int .i64 m.ep, .int .i64 m.sq, .int .i64 m.ac, v]
/-- The message's struct, whose load is the slice '.slice X n c'. -/
structure Mdt (w : World) (m : Ms) (X : Option Addr) (n c : Nat) : Prop where
  bs : Bs w X n m.d
  nil : X = none → n = 0 ∧ c = 0
  le : n ≤ c
  cap : c ≤ 9223372036854775807
  far : n ≤ 140737488351300
  fit : FitS m
theorem Mdt.len {w : World} {m : Ms} {X : Option Addr} {n c : Nat} (h : Mdt w m X n c) : n = m.d.length := h.bs.len
theorem Mdt.below {w w' : World} {m : Ms} {X : Option Addr} {n c : Nat} (h : Mdt w m X n c) (hb : Below w.heap.size w w') : Mdt w' m X n c := ⟨h.bs.below hb, h.nil, h.le, h.cap, h.far, h.fit⟩
theorem Mdt.grown {w w' : World} {row : Option Nat} {m : Ms} {X : Option Addr} {n c : Nat} (h : Mdt w m X n c) (hg : w.grownBy w' row) (hne : ∀ a, X = some a → some a.block ≠ row) : Mdt w' m X n c := ⟨h.bs.grown hg hne, h.nil, h.le, h.cap, h.far, h.fit⟩
theorem zfit : FitS zM := by constructor <;> (unfold I64 zM; decide)
theorem MayM.fits {m : Ms} (h : MayM m) : FitS m := by
  obtain ⟨⟨a1, a2⟩, ⟨b1, b2⟩, ⟨c1, c2⟩, ⟨d1, d2⟩, ⟨e1, e2⟩, ⟨f1, f2⟩, _⟩ := h
  constructor <;> (unfold I64; omega)
theorem may_is (m : Ms) : decide (MayM m) = ([m.fr, m.to].all (okB 15) && [m.k, m.ep, m.sq, m.ac].all (okB 2147483648) && decide (m.d.length ≤ 1200)) := by
  have h : ∀ a : Bool, ∀ p : Prop, [Decidable p] → (p ↔ a = true) → decide p = a := by
    intro a p _ hp
    cases a with
    | true => exact decide_eq_true (hp.2 rfl)
    | false => exact decide_eq_false (fun h => by cases hp.1 h)
  refine h _ _ ?_
  simp only [List.all_cons, List.all_nil, okB, Bool.and_true, Bool.and_eq_true, decide_eq_true_eq, MayM, Str.far]
  omega
/-- A message's cells in a block. -/
theorem ma_blk {w : World} {b : Nat} {t : TypeId} {m : Ms} {v : Value} (h : Blk w b t (ma m v)) :
    w.cell? ⟨b, 0, none⟩ = some (.int .i64 m.fr) ∧ w.cell? ⟨b, 1, none⟩ = some (.int .i64 m.to) ∧ w.cell? ⟨b, 2, none⟩ = some (.int .i64 m.k) ∧ w.cell? ⟨b, 3, none⟩ = some (.int .i64 m.ep) ∧ w.cell? ⟨b, 4, none⟩ = some (.int .i64 m.sq) ∧ w.cell? ⟨b, 5, none⟩ = some (.int .i64 m.ac) ∧ w.cell? ⟨b, 6, none⟩ = some v :=
  ⟨h.cell rfl, h.cell rfl, h.cell rfl, h.cell rfl, h.cell rfl, h.cell rfl, h.cell rfl⟩
section
variable (w : World)
set_option maxRecDepth 100000 in
set_option maxHeartbeats 2000000 in
theorem may_ (m : Ms) (X : Option Addr) (n c : Nat) (h : Mdt w m X n c) : Calls Try.prog 27 #[.agg (ma m (.slice X n c))] w fun e w' => e = .returned (.bool (decide (MayM m))) ∧ Below w.heap.size w w' := by
  have Hm := Lib.hid h.len
  have hml : n ≤ 9223372036854775807 := by have := h.le; have := h.cap; omega
  have HR := Lib.hid (may_is m)
  obtain ⟨f0, f1, f2, f3, f4, f5⟩ := h.fit
  clear h
  have hac := Blk.new w 24 (ma m (.slice X n c)) rfl
  obtain ⟨w1, hw1⟩ : ∃ w1, w.alloc (.cells (ma m (.slice X n c)) 24) = w1 := ⟨_, rfl⟩
  have hs1 : w1.heap.size = w.heap.size + 1 := by rw [← hw1]; simp
  have hb1 : Below w.heap.size w w1 := by rw [← hw1]; exact (Below.refl _ _).alloc (Nat.le_refl _) _
  rw [hw1] at hac
  obtain ⟨d0, d1, d2, d3, d4, d5, d6⟩ := ma_blk hac
  go_enter Try.func27, Try.ntmps27
  go_wp2_with fail
  have hI : Is (w1.alloc (.cells #[.int .i64 m.fr, .int .i64 m.to] 3)) (some ⟨w.heap.size + 1, 0, none⟩) 2 [m.fr, m.to] := Is.new w1 _ (by simp only [List.mem_cons, List.not_mem_nil, or_false, forall_eq_or_imp, forall_eq]; exact ⟨f0, f1⟩) 3 hs1.symm rfl rfl
  refine (fit_ _ 15 _ 2 2 [m.fr, m.to] hI (by omega)).mono ?_
  clear hI
  obtain ⟨w2, hw2⟩ : ∃ w2, w1.alloc (.cells #[.int .i64 m.fr, .int .i64 m.to] 3) = w2 := ⟨_, rfl⟩
  have hs2 : w2.heap.size = w.heap.size + 2 := by rw [← hw2]; simp [hs1]
  have hb2 : Below w.heap.size w w2 := by rw [← hw2]; exact hb1.alloc hb1.size _
  have hac2 : Blk w2 w.heap.size 24 (ma m (.slice X n c)) := by rw [← hw2]; exact hac.alloc _
  rw [hw2]
  clear hw2 hac d0 d1 d2 d3 d4 d5 d6 hw1
  obtain ⟨d0, d1, d2, d3, d4, d5, d6⟩ := ma_blk hac2
  cases hf : [m.fr, m.to].all (okB 15) with
  | false =>
    have HB := Lib.hid (show decide (MayM m) = false by rw [HR.out, hf]; rfl)
    clear hf
    rintro e w3 ⟨rfl, rfl⟩
    go_wp2
    go_ret
    rw [HB.out]
    exact ⟨rfl, hb2⟩
  | true =>
    have HB := Lib.hid (show decide (MayM m) = ([m.k, m.ep, m.sq, m.ac].all (okB 2147483648) && decide (m.d.length ≤ 1200)) by rw [HR.out, hf]; rfl)
    clear hf HR
    rintro e w3 ⟨rfl, rfl⟩
    go_wp2_with fail
    have hI : Is (w2.alloc (.cells #[.int .i64 m.k, .int .i64 m.ep, .int .i64 m.sq, .int .i64 m.ac] 3)) (some ⟨w.heap.size + 2, 0, none⟩) 4 [m.k, m.ep, m.sq, m.ac] := Is.new w2 _ (by simp only [List.mem_cons, List.not_mem_nil, or_false, forall_eq_or_imp, forall_eq]; exact ⟨f2, f3, f4, f5⟩) 3 hs2.symm rfl rfl
    refine (fit_ _ 2147483648 _ 4 4 [m.k, m.ep, m.sq, m.ac] hI (by omega)).mono ?_
    clear hI
    have hac3 : Blk (w2.alloc (.cells #[.int .i64 m.k, .int .i64 m.ep, .int .i64 m.sq, .int .i64 m.ac] 3)) w.heap.size 24 (ma m (.slice X n c)) := hac2.alloc _
    obtain ⟨_, _, _, _, _, _, e6⟩ := ma_blk hac3
    cases hR : [m.k, m.ep, m.sq, m.ac].all (okB 2147483648) with
    | false =>
      have HQ := Lib.hid hR
      clear hR
      rintro e w3 ⟨rfl, rfl⟩
      go_wp2
      go_ret
      rw [HB.out, HQ.out]
      exact ⟨rfl, hb2.alloc hb2.size _⟩
    | true =>
      have HQ := Lib.hid hR
      clear hR
      rintro e w3 ⟨rfl, rfl⟩
      by_cases g1 : (n : Int) ≤ 1200
      · have HP := Lib.hid (show decide (m.d.length ≤ 1200) = true by rw [decide_eq_true_eq, ← Hm.out]; omega)
        go_wp2
        go_ret
        rw [HB.out, HQ.out, HP.out]
        exact ⟨by simp [g1], hb2.alloc hb2.size _⟩
      · have HP := Lib.hid (show decide (m.d.length ≤ 1200) = false by rw [decide_eq_false_iff_not, ← Hm.out]; omega)
        go_wp2
        go_ret
        rw [HB.out, HQ.out, HP.out]
        exact ⟨by simp [g1], hb2.alloc hb2.size _⟩
end
end Net
end Go.Proofs.Ytallbhdfbkkjkaa
