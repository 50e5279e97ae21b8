/- Layer 10: records as they lie in memory; which may be: fit, none, May, may. -/
import Derived.Test.YtganoklclnbjkaaStrM
import Derived.Test.YtganoklclnbjkaaBloB
set_option linter.all false
namespace Go.Proofs.Ytganoklclnbjkaa
open Go.RowKit
namespace Str
open Blo (I64)

/-! ### rows of ints -/
def ivs (l : List Int) : List Value := l.map fun z => Value.int .i64 z
/-- The slice value '.slice A n _' reads as ints. -/
def Is (w : World) (A : Option Addr) (n : Nat) (l : List Int) : Prop := Rd w A 1 n (ivs l) ∧ ∀ z ∈ l, I64 z
theorem Is.len {w : World} {A : Option Addr} {n : Nat} {l : List Int} (h : Is w A n l) : n = l.length := by
  have := h.1.1; simp [ivs] at this; omega
theorem Is.get {w : World} {A : Option Addr} {n : Nat} {l : List Int} (h : Is w A n l) {k : Nat} (hk : k < n) : ∃ b o x, A = some ⟨b, o, none⟩ ∧ l[k]? = some x ∧ I64 x ∧ w.cell? ⟨b, o + k, none⟩ = some (.int .i64 x) := by
  obtain ⟨b, o, e, hx, hc⟩ := Rd.at_ h.1 hk
  have hx' : k < l.length := by simpa [ivs] using hx
  exact ⟨b, o, l[k], e, List.getElem?_eq_getElem hx', h.2 _ (List.getElem_mem hx'), by simpa [ivs] using hc⟩
theorem Is.new (w : World) (l : List Int) (h : ∀ z ∈ l, I64 z) (t : TypeId) {g : Nat} (hg : g = w.heap.size) {C : Array Value} (hC : C = (ivs l).toArray) {n : Nat} (hn : n = l.length) : Is (w.alloc (.cells C t)) (some ⟨g, 0, none⟩) n l := by
  subst hg hC hn
  have := Rd.new w (ivs l).toArray t (0, 0) (sz := 1) (n := l.length) (by simp [ivs])
  exact ⟨by simpa using this, h⟩
theorem Is.below {w w' : World} {A : Option Addr} {n : Nat} {l : List Int} (h : Is w A n l) (hb : Below w.heap.size w w') : Is w' A n l := ⟨Rd.below h.1 hb, h.2⟩
def farB (z : Int) : Bool := decide (0 ≤ z ∧ z ≤ 2147483648)
def zeroB (z : Int) : Bool := decide (z = 0)
theorem all_at {α : Type} {p : α → Bool} {l : List α} {k : Nat} {x : α} (h : l[k]? = some x) : (l.drop k).all p = (p x && (l.drop (k + 1)).all p) := by
  rw [Blo.drop_of h, List.all_cons]
section
variable (w : World)
set_option maxRecDepth 100000 in
set_option maxHeartbeats 1000000 in
theorem fit_ (A : Option Addr) (n c : Nat) (l : List Int) (h : Is w A n l) (hn : n ≤ 9223372036854775807) : Calls Try.prog 36 #[.slice A n c] w fun e w' => e = .returned (.bool (l.all farB)) ∧ w = w' := by
  have Hl := Lib.hid h.len
  go_enter Try.func36, Try.ntmps36
  go_wp2_with fail
  go_loopw [7] (fun iv wr => ∃ i : Nat, i ≤ n ∧ iv = .int .i64 (i : Int) ∧ (l.drop i).all farB = l.all farB ∧ wr = w) (fun iv _ => n - (intOf iv).toNat)
  case atStart => exact ⟨0, Nat.zero_le _, rfl, rfl, rfl⟩
  case round =>
    obtain ⟨i, hi, rfl, hL, rfl⟩ := hrel
    by_cases hlt : i < n
    · have hil : (i : Int) < (n : Int) := by omega
      have hi0 : (0 : Int) ≤ (i : Int) := by omega
      obtain ⟨b, o, x, rfl, hx, hxi, cx⟩ := h.get hlt
      rw [all_at hx] at hL
      clear hx h
      by_cases h0 : x < 0
      · have HB := Lib.hid (show l.all farB = false by rw [← hL]; simp [farB]; omega)
        clear hL
        go_wp2
        go_ret
        rw [HB.out]
        exact ⟨rfl, rfl⟩
      · by_cases h1 : 2147483648 < x
        · have HB := Lib.hid (show l.all farB = false by rw [← hL]; simp [farB]; omega)
          clear hL
          go_wp2
          go_ret
          rw [HB.out]
          exact ⟨rfl, rfl⟩
        · have HL := Lib.hid (show (l.drop (i + 1)).all farB = l.all farB by rw [← hL, show farB x = true by simp [farB]; omega]; rfl)
          clear hL
          go_wp2
          go_roundw
          case rel => exact ⟨i + 1, by omega, by go_num, HL.out, trivial⟩
          case measure => simp [intOf]; omega
    · have hin : (n : Int) ≤ (i : Int) := by omega
      have HB := Lib.hid (show l.all farB = true by rw [← hL, List.drop_of_length_le (by have := Hl.out; omega)]; rfl)
      clear hL
      go_wp2
      go_ret
      rw [HB.out]
      exact ⟨rfl, rfl⟩
set_option maxRecDepth 100000 in
set_option maxHeartbeats 1000000 in
theorem none_ (A : Option Addr) (n c : Nat) (l : List Int) (h : Is w A n l) (hn : n ≤ 9223372036854775807) : Calls Try.prog 37 #[.slice A n c] w fun e w' => e = .returned (.bool (l.all zeroB)) ∧ w = w' := by
  have Hl := Lib.hid h.len
  go_enter Try.func37, Try.ntmps37
  go_wp2_with fail
  go_loopw [7] (fun iv wr => ∃ i : Nat, i ≤ n ∧ iv = .int .i64 (i : Int) ∧ (l.drop i).all zeroB = l.all zeroB ∧ wr = w) (fun iv _ => n - (intOf iv).toNat)
  case atStart => exact ⟨0, Nat.zero_le _, rfl, rfl, rfl⟩
  case round =>
    obtain ⟨i, hi, rfl, hL, rfl⟩ := hrel
    by_cases hlt : i < n
    · have hil : (i : Int) < (n : Int) := by omega
      have hi0 : (0 : Int) ≤ (i : Int) := by omega
      obtain ⟨b, o, x, rfl, hx, hxi, cx⟩ := h.get hlt
      rw [all_at hx] at hL
      clear hx h
      by_cases h0 : x = 0
      · have HL := Lib.hid (show (l.drop (i + 1)).all zeroB = l.all zeroB by rw [← hL, show zeroB x = true by simp [zeroB, h0]]; rfl)
        subst h0
        clear hL
        go_wp2
        go_roundw
        case rel => exact ⟨i + 1, by omega, by go_num, HL.out, trivial⟩
        case measure => simp [intOf]; omega
      · have HB := Lib.hid (show l.all zeroB = false by rw [← hL]; simp [zeroB, h0])
        clear hL
        go_wp2
        go_ret
        rw [HB.out]
        exact ⟨rfl, rfl⟩
    · have hin : (n : Int) ≤ (i : Int) := by omega
      have HB := Lib.hid (show l.all zeroB = true by rw [← hL, List.drop_of_length_le (by have := Hl.out; omega)]; rfl)
      clear hL
      go_wp2
      go_ret
      rw [HB.out]
      exact ⟨rfl, rfl⟩
end

/-! ### records in memory -/
/-- A record's numbers are ints. -/
structure FitR (r : Rec) : Prop where
  k : I64 r.k
  sh : I64 r.sh
  sn : I64 r.sn
  ba : I64 r.ba
  ma : I64 r.ma
  off : I64 r.off
  len : I64 r.len
abbrev rv (r : Rec) (d : Value) : List Value := [.int .i64 r.k, .int .i64 r.sh, .int .i64 r.sn, .int .i64 r.ba, .int .i64 r.ma, .int .i64 r.off, .int .i64 r.len, d]
abbrev ra (r : Rec) (d : Value) : Array Value := #[.int .i64 r.k, .int .i64 r.sh, .int .i64 r.sn, .int .i64 r.ba, .int .i64 r.ma, .int .i64 r.off, .int .i64 r.len, d]
/-- The slice of a record's numbers. -/
structure Rdt (w : World) (r : Rec) (X : Option Addr) (m c : Nat) : Prop where
  ns : Ns w X m r.d
  nil : X = none → m = 0 ∧ c = 0
  le : m ≤ c
  cap : c ≤ 9223372036854775807
  by8 : m * 8 ≤ 140737488355328
  fit : FitR r
theorem Rdt.below {w w' : World} {r : Rec} {X : Option Addr} {m c : Nat} (h : Rdt w r X m c) (hb : Below w.heap.size w w') : Rdt w' r X m c := ⟨h.ns.below hb, h.nil, h.le, h.cap, h.by8, h.fit⟩
theorem Rdt.grown {w w' : World} {row : Option Nat} {r : Rec} {X : Option Addr} {m c : Nat} (h : Rdt w r X m c) (hg : w.grownBy w' row) (hne : ∀ a, X = some a → some a.block ≠ row) : Rdt w' r X m c := ⟨h.ns.grown hg hne, h.nil, h.le, h.cap, h.by8, h.fit⟩
theorem Rdt.len {w : World} {r : Rec} {X : Option Addr} {m c : Nat} (h : Rdt w r X m c) : m = r.d.length := h.ns.len
/-- The slice value '.slice A n _' reads as the records l. -/
structure Rcl (w : World) (A : Option Addr) (n : Nat) (l : List Rec) : Prop where
  len : n = l.length
  each : ∀ k (hk : k < l.length), ∃ b o X m c, A = some ⟨b, o, none⟩ ∧ (∀ j u, (rv l[k] (.slice X m c))[j]? = some u → w.cell? ⟨b, o + k * 8 + j, none⟩ = some u) ∧ Rdt w l[k] X m c
theorem Rcl.below {w w' : World} {A : Option Addr} {n : Nat} {l : List Rec} (h : Rcl w A n l) (hb : Below w.heap.size w w') : Rcl w' A n l :=
  ⟨h.len, fun k hk => by
    obtain ⟨b, o, X, m, c, e, hc, hd⟩ := h.each k hk
    exact ⟨b, o, X, m, c, e, fun j u hu => (hb.cell (cell_lt (hc j u hu))).trans (hc j u hu), hd.below hb⟩⟩
theorem Rcl.drewN {w : World} {A : Option Addr} {n : Nat} {l : List Rec} (h : Rcl w A n l) (k : Nat) : Rcl (w.drewN k) A n l := h.below (below_drewN (Below.refl _ _) k)
theorem Rcl.nil {w : World} {A : Option Addr} : Rcl w A 0 [] := ⟨rfl, fun k hk => by simp at hk⟩
/-- One record's cells. -/
structure RC (w : World) (b o : Nat) (r : Rec) (d : Value) : Prop where
  c0 : w.cell? ⟨b, o, none⟩ = some (.int .i64 r.k)
  c1 : w.cell? ⟨b, o + 1, none⟩ = some (.int .i64 r.sh)
  c2 : w.cell? ⟨b, o + 2, none⟩ = some (.int .i64 r.sn)
  c3 : w.cell? ⟨b, o + 3, none⟩ = some (.int .i64 r.ba)
  c4 : w.cell? ⟨b, o + 4, none⟩ = some (.int .i64 r.ma)
  c5 : w.cell? ⟨b, o + 5, none⟩ = some (.int .i64 r.off)
  c6 : w.cell? ⟨b, o + 6, none⟩ = some (.int .i64 r.len)
  c7 : w.cell? ⟨b, o + 7, none⟩ = some d
theorem rc_of {w : World} {b o : Nat} {r : Rec} {d : Value} (h : ∀ j u, (rv r d)[j]? = some u → w.cell? ⟨b, o + j, none⟩ = some u) : RC w b o r d :=
  ⟨h 0 _ rfl, h 1 _ rfl, h 2 _ rfl, h 3 _ rfl, h 4 _ rfl, h 5 _ rfl, h 6 _ rfl, h 7 _ rfl⟩
theorem RC.all {w : World} {b o : Nat} {r : Rec} {d : Value} (h : RC w b o r d) : w.cell? ⟨b, o, none⟩ = some (.int .i64 r.k) ∧ w.cell? ⟨b, o + 1, none⟩ = some (.int .i64 r.sh) ∧ w.cell? ⟨b, o + 2, none⟩ = some (.int .i64 r.sn) ∧ w.cell? ⟨b, o + 3, none⟩ = some (.int .i64 r.ba) ∧ w.cell? ⟨b, o + 4, none⟩ = some (.int .i64 r.ma) ∧ w.cell? ⟨b, o + 5, none⟩ = some (.int .i64 r.off) ∧ w.cell? ⟨b, o + 6, none⟩ = some (.int .i64 r.len) ∧ w.cell? ⟨b, o + 7, none⟩ = some d :=
  ⟨h.c0, h.c1, h.c2, h.c3, h.c4, h.c5, h.c6, h.c7⟩
theorem Rcl.at_ {w : World} {A : Option Addr} {n : Nat} {l : List Rec} (h : Rcl w A n l) {k : Nat} (hk : k < n) :
    ∃ b o X m c x, A = some ⟨b, o, none⟩ ∧ l[k]? = some x ∧ RC w b (o + k * 8) x (.slice X m c) ∧ Rdt w x X m c := by
  have hl : k < l.length := by have := h.len; omega
  obtain ⟨b, o, X, m, c, e, hc, hd⟩ := h.each k hl
  exact ⟨b, o, X, m, c, l[k], e, List.getElem?_eq_getElem hl, rc_of hc, hd⟩
/-- A record in a block of its own. -/
theorem rc_blk {w : World} {b : Nat} {t : TypeId} {r : Rec} {d : Value} (h : Blk w b t (ra r d)) : RC w b 0 r d :=
  ⟨h.cell rfl, h.cell rfl, h.cell rfl, h.cell rfl, h.cell rfl, h.cell rfl, h.cell rfl, h.cell rfl⟩

/-! ### May -/
def mayB (r : Rec) : Bool := decide (MayR r)
def manyB (r : Rec) : Bool :=
  if r.k = 1 then [r.off, (r.d.length : Int)].all zeroB
  else if r.k = 2 then [r.sh, r.sn, r.ba, r.ma, r.len].all zeroB && (decide (1 ≤ r.d.length) && decide (r.d.length ≤ 64))
  else if r.k = 3 then [r.sh, r.sn, r.ba, r.ma, (r.d.length : Int)].all zeroB && decide (1 ≤ r.len)
  else if r.k = 4 then [r.sh, r.sn, r.ba, r.ma, r.off, (r.d.length : Int)].all zeroB
  else false
theorem may_is (r : Rec) : mayB r = ([r.sh, r.sn, r.ba, r.ma, r.off, r.len].all farB && manyB r) := by
  have hz : r.d = [] ↔ (r.d.length : Int) = 0 := by
    rw [← List.length_eq_zero_iff]; omega
  rw [Bool.eq_iff_iff]
  unfold mayB MayR Kinds manyB
  simp only [decide_eq_true_eq, Bool.and_eq_true, hz]
  unfold far
  by_cases h1 : r.k = 1
  · simp only [h1, if_true, List.all_cons, List.all_nil, farB, zeroB, Bool.and_eq_true, decide_eq_true_eq, and_true]
    constructor
    · rintro ⟨h | h | h | h, f⟩
      · exact ⟨f, by omega, by omega⟩
      all_goals first | omega | exact h.1.elim
    · rintro ⟨f, g⟩
      exact ⟨.inl ⟨trivial, g⟩, f⟩
  · by_cases h2 : r.k = 2
    · simp only [h2, if_true, List.all_cons, List.all_nil, farB, zeroB, Bool.and_eq_true, decide_eq_true_eq, and_true, show ¬ ((2 : Int) = 1) by decide, if_false]
      constructor
      · rintro ⟨h | h | h | h, f⟩
        · first | omega | exact h.1.elim
        · exact ⟨f, by omega, by omega⟩
        all_goals first | omega | exact h.1.elim
      · rintro ⟨f, g⟩
        exact ⟨.inr (.inl ⟨trivial, by omega⟩), f⟩
    · by_cases h3 : r.k = 3
      · simp only [h3, if_true, List.all_cons, List.all_nil, farB, zeroB, Bool.and_eq_true, decide_eq_true_eq, and_true, show ¬ ((3 : Int) = 1) by decide, show ¬ ((3 : Int) = 2) by decide, if_false]
        constructor
        · rintro ⟨h | h | h | h, f⟩
          · first | omega | exact h.1.elim
          · first | omega | exact h.1.elim
          · exact ⟨f, by omega, by omega⟩
          · first | omega | exact h.1.elim
        · rintro ⟨f, g⟩
          exact ⟨.inr (.inr (.inl ⟨trivial, by omega⟩)), f⟩
      · by_cases h4 : r.k = 4
        · simp only [h4, if_true, List.all_cons, List.all_nil, farB, zeroB, Bool.and_eq_true, decide_eq_true_eq, and_true, show ¬ ((4 : Int) = 1) by decide, show ¬ ((4 : Int) = 2) by decide, show ¬ ((4 : Int) = 3) by decide, if_false]
          constructor
          · rintro ⟨h | h | h | h, f⟩
            · first | omega | exact h.1.elim
            · first | omega | exact h.1.elim
            · first | omega | exact h.1.elim
            · exact ⟨f, by omega⟩
          · rintro ⟨f, g⟩
            exact ⟨.inr (.inr (.inr ⟨trivial, by omega⟩)), f⟩
        · simp [h1, h2, h3, h4]
end Str
end Go.Proofs.Ytganoklclnbjkaa
