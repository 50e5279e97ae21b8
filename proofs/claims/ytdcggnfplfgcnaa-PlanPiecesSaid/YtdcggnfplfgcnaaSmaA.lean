/- Layer 13: pieces and maps as they lie in memory; which numbers may be a volume's or a node's; which pieces are a map. -/
import Derived.Test.YtdcggnfplfgcnaaSmaM
import Derived.Test.YtdcggnfplfgcnaaShp
import Derived.Test.YtdcggnfplfgcnaaStep
import Derived.BigQuiet
import Derived.Lib.MinMax
set_option linter.all false
namespace Go.Proofs.Ytdcggnfplfgcnaa
open Go.RowKit
namespace Sma

def I64 (z : Int) : Prop := -9223372036854775808 ≤ z ∧ z ≤ 9223372036854775807
/-! ### rows of ints -/
def ivs (l : List Int) : List Value := l.map fun z => Value.int .i64 z
theorem ivs_length (l : List Int) : (ivs l).length = l.length := by simp [ivs]
theorem ivs_app (l r : List Int) : ivs (l ++ r) = ivs l ++ ivs r := by simp [ivs]
theorem ivs_one (l : List Int) : ∀ u ∈ ivs l, u.oneCell' = true := by
  intro u hu
  obtain ⟨z, _, rfl⟩ := List.mem_map.1 hu
  rfl
/-- The slice value '.slice A n _' reads as ints. -/
def Is (w : World) (A : Option Addr) (n : Nat) (l : List Int) : Prop := Rd w A 1 n (ivs l) ∧ ∀ z ∈ l, I64 z
theorem Is.len {w : World} {A : Option Addr} {n : Nat} {l : List Int} (h : Is w A n l) : n = l.length := by
  have := h.1.1; simp [ivs] at this; omega
theorem Is.get {w : World} {A : Option Addr} {n : Nat} {l : List Int} (h : Is w A n l) {k : Nat} (hk : k < n) : ∃ b o x, A = some ⟨b, o, none⟩ ∧ l[k]? = some x ∧ I64 x ∧ w.cell? ⟨b, o + k, none⟩ = some (.int .i64 x) := by
  obtain ⟨b, o, e, hx, hc⟩ := Rd.at_ h.1 hk
  have hx' : k < l.length := by simpa [ivs] using hx
  exact ⟨b, o, l[k], e, List.getElem?_eq_getElem hx', h.2 _ (List.getElem_mem hx'), by simpa [ivs] using hc⟩
theorem Is.new (w : World) (l : List Int) (h : ∀ z ∈ l, I64 z) (t : TypeId) {g : Nat} (hg : g = w.heap.size) {C : Array Value} (hC : C = (ivs l).toArray) {n : Nat} (hn : n = l.length) : Is (w.alloc (.cells C t)) (some ⟨g, 0, none⟩) n l := by
  subst hg hC hn
  have := Rd.new w (ivs l).toArray t (0, 0) (sz := 1) (n := l.length) (by simp [ivs])
  exact ⟨by simpa using this, h⟩
theorem Is.below {w w' : World} {A : Option Addr} {n : Nat} {l : List Int} (h : Is w A n l) (hb : Below w.heap.size w w') : Is w' A n l := ⟨Rd.below h.1 hb, h.2⟩
theorem Is.alloc {w : World} {A : Option Addr} {n : Nat} {l : List Int} (h : Is w A n l) (o : Obj) : Is (w.alloc o) A n l := ⟨Rd.alloc h.1 o, h.2⟩
theorem Is.drewN {w : World} {A : Option Addr} {n : Nat} {l : List Int} (h : Is w A n l) (k : Nat) : Is (w.drewN k) A n l := h

/-! ### rows of pieces -/
structure Fit (p : Pc) : Prop where
  fr : I64 p.fr
  en : I64 p.en
  nd : I64 p.nd
theorem Fit.all {p : Pc} (h : Fit p) : (-9223372036854775808 ≤ p.fr ∧ p.fr ≤ 9223372036854775807) ∧ (-9223372036854775808 ≤ p.en ∧ p.en ≤ 9223372036854775807) ∧ (-9223372036854775808 ≤ p.nd ∧ p.nd ≤ 9223372036854775807) := ⟨h.fr, h.en, h.nd⟩
def pv (p : Pc) : List Value := [.int .i64 p.fr, .int .i64 p.en, .int .i64 p.nd]
def pvs (l : List Pc) : List Value := l.flatMap pv
theorem pv_len (p : Pc) : (pv p).length = 3 := rfl
theorem pvs_nil : pvs [] = [] := rfl
theorem pvs_cons (p : Pc) (l : List Pc) : pvs (p :: l) = pv p ++ pvs l := rfl
theorem pvs_app (l r : List Pc) : pvs (l ++ r) = pvs l ++ pvs r := by simp [pvs]
theorem pvs_snoc (l : List Pc) (p : Pc) : pvs (l ++ [p]) = pvs l ++ pv p := by rw [pvs_app]; simp [pvs]
theorem pvs_len : ∀ l : List Pc, (pvs l).length = l.length * 3
  | [] => rfl
  | p :: l => by rw [pvs_cons, List.length_append, pvs_len l, pv_len, List.length_cons]; omega
theorem pvs_one (l : List Pc) : ∀ u ∈ pvs l, u.oneCell' = true := by
  intro u hu
  obtain ⟨p, _, hp⟩ := List.mem_flatMap.1 hu
  simp only [pv, List.mem_cons, List.not_mem_nil, or_false] at hp
  rcases hp with rfl | rfl | rfl <;> rfl
theorem pvs_at : ∀ {l : List Pc} {k : Nat} (h : k < l.length) {j : Nat} (_ : j < 3), (pvs l)[k * 3 + j]? = (pv l[k])[j]?
  | p :: l, 0, _, j, hj => by
    rw [pvs_cons, List.getElem?_append_left (by rw [pv_len]; omega)]
    simp
  | p :: l, k + 1, h, j, hj => by
    rw [pvs_cons, List.getElem?_append_right (by rw [pv_len]; omega), pv_len, show (k + 1) * 3 + j - 3 = k * 3 + j by omega, pvs_at (l := l) (by simpa using h) hj]
    simp
theorem pvs_take : ∀ (l : List Pc) (k : Nat), (pvs l).take (k * 3) = pvs (l.take k)
  | [], k => by simp [pvs]
  | p :: l, 0 => by simp [pvs]
  | p :: l, k + 1 => by
    rw [pvs_cons, List.take_succ_cons, pvs_cons, List.take_append, pv_len, List.take_of_length_le (by rw [pv_len]; omega), show (k + 1) * 3 - 3 = k * 3 by omega, pvs_take l k]
theorem pvs_drop : ∀ (l : List Pc) (k : Nat), (pvs l).drop (k * 3) = pvs (l.drop k)
  | [], k => by simp [pvs]
  | p :: l, 0 => by simp
  | p :: l, k + 1 => by
    rw [pvs_cons, List.drop_succ_cons, List.drop_append, pv_len, List.drop_of_length_le (by rw [pv_len]; omega), show (k + 1) * 3 - 3 = k * 3 by omega, pvs_drop l k, List.nil_append]
/-- The slice value '.slice A n _' reads as the pieces l. -/
structure Ps (w : World) (A : Option Addr) (n : Nat) (l : List Pc) : Prop where
  rd : Rd w A 3 n (pvs l)
  fit : ∀ p ∈ l, Fit p
theorem Ps.len {w : World} {A : Option Addr} {n : Nat} {l : List Pc} (h : Ps w A n l) : n = l.length := by have := h.rd.1; rw [pvs_len] at this; omega
theorem Ps.below {w w' : World} {A : Option Addr} {n : Nat} {l : List Pc} (h : Ps w A n l) (hb : Below w.heap.size w w') : Ps w' A n l := ⟨h.rd.below hb, h.fit⟩
theorem Ps.alloc {w : World} {A : Option Addr} {n : Nat} {l : List Pc} (h : Ps w A n l) (o : Obj) : Ps (w.alloc o) A n l := ⟨h.rd.alloc o, h.fit⟩
theorem Ps.drew {w : World} {A : Option Addr} {n : Nat} {l : List Pc} (h : Ps w A n l) : Ps w.drew A n l := ⟨h.rd, h.fit⟩
theorem Ps.drewN {w : World} {A : Option Addr} {n : Nat} {l : List Pc} (h : Ps w A n l) (k : Nat) : Ps (w.drewN k) A n l := ⟨h.rd, h.fit⟩
theorem Ps.nil {w : World} {A : Option Addr} : Ps w A 0 [] := ⟨Rd.nil, by simp⟩
theorem Ps.grown {w w' : World} {row : Option Nat} {A : Option Addr} {n : Nat} {l : List Pc} (h : Ps w A n l) (hg : w.grownBy w' row) (hne : ∀ a, A = some a → some a.block ≠ row) : Ps w' A n l := ⟨h.rd.grown hg hne, h.fit⟩
theorem Ps.zero {w : World} {A : Option Addr} {n : Nat} {l : List Pc} (h : Ps w A n l) (hA : A = none) : n = 0 := by
  cases l with
  | nil => have := h.len; simpa using this
  | cons x l => obtain ⟨b, o, e, _⟩ := h.rd.2 0 (.int .i64 x.fr) rfl; rw [hA] at e; cases e
/-- The cells of piece k. -/
theorem Ps.at_ {w : World} {A : Option Addr} {n : Nat} {l : List Pc} (h : Ps w A n l) {k : Nat} (hk : k < n) :
    ∃ b o, A = some ⟨b, o, none⟩ ∧ ∃ p, l[k]? = some p ∧ Fit p ∧ w.cell? ⟨b, o + k * 3, none⟩ = some (.int .i64 p.fr) ∧ w.cell? ⟨b, o + k * 3 + 1, none⟩ = some (.int .i64 p.en) ∧ w.cell? ⟨b, o + k * 3 + 2, none⟩ = some (.int .i64 p.nd) := by
  have hl : k < l.length := by have := h.len; omega
  have g : ∀ j (u : Value), (pv l[k])[j]? = some u → ∃ b o, A = some ⟨b, o, none⟩ ∧ w.cell? ⟨b, o + k * 3 + j, none⟩ = some u := fun j u hu => by
    have hj : j < 3 := by have := (List.getElem?_eq_some_iff.1 hu).1; rwa [pv_len] at this
    obtain ⟨b, o, e, hc⟩ := h.rd.2 (k * 3 + j) u (by rw [pvs_at hl hj]; exact hu)
    exact ⟨b, o, e, by rw [Nat.add_assoc]; exact hc⟩
  obtain ⟨b, o, e, h0⟩ := g 0 _ rfl
  have g' : ∀ j (u : Value), (pv l[k])[j]? = some u → w.cell? ⟨b, o + k * 3 + j, none⟩ = some u := fun j u hu => by
    obtain ⟨b', o', e', hc⟩ := g j u hu
    rw [e] at e'
    injection e' with e'
    injection e' with e1 e2
    subst e1 e2
    exact hc
  exact ⟨b, o, e, l[k], List.getElem?_eq_getElem hl, h.fit _ (List.getElem_mem hl), h0, g' 1 _ rfl, g' 2 _ rfl⟩
/-- A map's value: its numbers are ints, its slice reads as its pieces. -/
structure Mr (w : World) (m : Mp) (A : Option Addr) (k c : Nat) : Prop where
  v : I64 m.v
  n : I64 m.n
  ps : Ps w A k m.ps
  le : k ≤ c
  cap : c ≤ 9223372036854775807
  nil : A = none → c = 0
theorem Mr.below {w w' : World} {m : Mp} {A : Option Addr} {k c : Nat} (h : Mr w m A k c) (hb : Below w.heap.size w w') : Mr w' m A k c := ⟨h.v, h.n, h.ps.below hb, h.le, h.cap, h.nil⟩
theorem Mr.alloc {w : World} {m : Mp} {A : Option Addr} {k c : Nat} (h : Mr w m A k c) (o : Obj) : Mr (w.alloc o) m A k c := ⟨h.v, h.n, h.ps.alloc o, h.le, h.cap, h.nil⟩
theorem Mr.drewN {w : World} {m : Mp} {A : Option Addr} {k c : Nat} (h : Mr w m A k c) (j : Nat) : Mr (w.drewN j) m A k c := ⟨h.v, h.n, h.ps.drewN j, h.le, h.cap, h.nil⟩
theorem Mr.len {w : World} {m : Mp} {A : Option Addr} {k c : Nat} (h : Mr w m A k c) : k = m.ps.length := h.ps.len
abbrev mv (m : Mp) (A : Option Addr) (k c : Nat) : Value := .agg #[.int .i64 m.v, .int .i64 m.n, .slice A k c]
theorem drop_of {α : Type} {l : List α} {k : Nat} {x : α} (h : l[k]? = some x) : l.drop k = x :: l.drop (k + 1) := by
  obtain ⟨hk, rfl⟩ := List.getElem?_eq_some_iff.1 h
  exact List.drop_eq_getElem_cons hk
theorem drop_end {α : Type} {l : List α} {k n : Nat} (hn : n = l.length) (h : n ≤ k) : l.drop k = [] := List.drop_of_length_le (by omega)
theorem all_at {α : Type} {p : α → Bool} {l : List α} {k : Nat} {x : α} (h : l[k]? = some x) : (l.drop k).all p = (p x && (l.drop (k + 1)).all p) := by
  rw [drop_of h, List.all_cons]
def volB (n : Int) : Bool := decide (1 ≤ n ∧ n ≤ 1024)

section
variable (w : World)
set_option maxRecDepth 100000 in
theorem volume_ (n : Int) (hn : I64 n) : Calls Try.prog 67 #[.int .i64 n] w fun e w' => e = .returned (.bool (volB n)) ∧ w = w' := by
  unfold I64 at hn
  by_cases h0 : 1 ≤ n
  · by_cases h1 : n ≤ 1024
    · have H := Lib.hid (show volB n = true by simp [volB, h0, h1])
      go_enter Try.func67, Try.ntmps67
      go_wp2
      go_ret
      rw [H.out]
      exact ⟨rfl, rfl⟩
    · have H := Lib.hid (show volB n = false by simp [volB, h1])
      go_enter Try.func67, Try.ntmps67
      go_wp2
      go_ret
      rw [H.out]
      exact ⟨rfl, rfl⟩
  · have H := Lib.hid (show volB n = false by simp [volB, h0])
    go_enter Try.func67, Try.ntmps67
    go_wp2
    go_ret
    rw [H.out]
    exact ⟨rfl, rfl⟩
set_option maxRecDepth 100000 in
theorem rnode_ (n : Int) (hn : I64 n) : Calls Try.prog 58 #[.int .i64 n] w fun e w' => e = .returned (.bool (ndB n)) ∧ w = w' := by
  unfold I64 at hn
  by_cases h0 : 0 ≤ n
  · by_cases h1 : n < 16
    · have H := Lib.hid (show ndB n = true by simp [ndB, h0, h1])
      go_enter Try.func58, Try.ntmps58
      go_wp2
      go_ret
      rw [H.out]
      exact ⟨rfl, rfl⟩
    · have H := Lib.hid (show ndB n = false by simp [ndB, h1])
      go_enter Try.func58, Try.ntmps58
      go_wp2
      go_ret
      rw [H.out]
      exact ⟨rfl, rfl⟩
  · have H := Lib.hid (show ndB n = false by simp [ndB, h0])
    go_enter Try.func58, Try.ntmps58
    go_wp2
    go_ret
    rw [H.out]
    exact ⟨rfl, rfl⟩
set_option maxRecDepth 100000 in
set_option maxHeartbeats 1000000 in
theorem may_ (A : Option Addr) (n c : Nat) (l : List Int) (h : Is w A n l) (hn : n ≤ 9223372036854775807) : Calls Try.prog 82 #[.slice A n c] w fun e w' => e = .returned (.bool (l.all ndB)) ∧ w = w' := by
  have Hl := Lib.hid h.len
  go_enter Try.func82, Try.ntmps82
  go_wp2_with fail
  go_loopw [7] (fun iv wr => ∃ i : Nat, i ≤ n ∧ iv = .int .i64 (i : Int) ∧ (l.drop i).all ndB = l.all ndB ∧ wr = w) (fun iv _ => n - (intOf iv).toNat)
  case atStart => exact ⟨0, Nat.zero_le _, rfl, rfl, rfl⟩
  case round =>
    obtain ⟨i, hi, rfl, hL, rfl⟩ := hrel
    by_cases hlt : i < n
    · have hil : (i : Int) < (n : Int) := by omega
      have hi0 : (0 : Int) ≤ (i : Int) := by omega
      obtain ⟨b, o, x, rfl, hx, hxi, cx⟩ := h.get hlt
      rw [all_at hx] at hL
      clear hx h
      by_cases h0 : x < 0
      · have HB := Lib.hid (show l.all ndB = false by rw [← hL]; simp [ndB]; omega)
        clear hL
        go_wp2
        go_ret
        rw [HB.out]
        exact ⟨rfl, rfl⟩
      · by_cases h1 : 16 ≤ x
        · have HB := Lib.hid (show l.all ndB = false by rw [← hL]; simp [ndB]; omega)
          clear hL
          go_wp2
          go_ret
          rw [HB.out]
          exact ⟨rfl, rfl⟩
        · have HL := Lib.hid (show (l.drop (i + 1)).all ndB = l.all ndB by rw [← hL]; simp [ndB, show 0 ≤ x ∧ x < 16 by omega])
          clear hL
          go_wp2
          go_roundw
          case rel => exact ⟨i + 1, by omega, by go_num, HL.out, trivial⟩
          case measure => simp [intOf]; omega
    · have hin : (n : Int) ≤ (i : Int) := by omega
      have HB := Lib.hid (show l.all ndB = true by rw [← hL, drop_end Hl.out (by omega)]; rfl)
      clear hL
      go_wp2
      go_ret
      rw [HB.out]
      exact ⟨rfl, rfl⟩
end
end Sma
end Go.Proofs.Ytdcggnfplfgcnaa
