/- Layer 9: the document's blocks of a list: all; shows. -/
import Derived.Test.YtfdfjnepfgabaaaDelN
set_option linter.all false
namespace Go.Proofs.Ytfdfjnepfgabaaa
open Go.RowKit

/-! ### rows of like parts -/
theorem fm_len {s : Nat} (F : Nat → List Value) (hs : ∀ i, (F i).length = s) : ∀ l : List Nat, (l.flatMap F).length = l.length * s
  | [] => by simp
  | x :: l => by rw [List.flatMap_cons, List.length_append, fm_len F hs l, hs, List.length_cons, Nat.add_mul, Nat.one_mul]; omega
theorem fm_congr {F G : Nat → List Value} : ∀ {l : List Nat} (_ : ∀ i ∈ l, F i = G i), l.flatMap F = l.flatMap G
  | [], _ => rfl
  | x :: l, h => by rw [List.flatMap_cons, List.flatMap_cons, h x (by simp), fm_congr fun i hi => h i (by simp [hi])]
theorem fm_split (F : Nat → List Value) {n p : Nat} (hp : p < n) : (List.range n).flatMap F = (List.range p).flatMap F ++ F p ++ (List.range' (p + 1) (n - (p + 1))).flatMap F := by
  have : List.range n = List.range p ++ [p] ++ List.range' (p + 1) (n - (p + 1)) := by
    rw [List.range_eq_range', List.range_eq_range', show [p] = List.range' p 1 from rfl]
    have e1 := List.range'_append_1 (s := 0) (m := p) (n := 1)
    rw [Nat.zero_add] at e1
    rw [e1]
    have e2 := List.range'_append_1 (s := 0) (m := p + 1) (n := n - (p + 1))
    rw [Nat.zero_add] at e2
    rw [e2]
    congr 1
    omega
  rw [this]
  simp
theorem fm_at {s : Nat} (F : Nat → List Value) (hs : ∀ i, (F i).length = s) {n p j : Nat} (hp : p < n) (hj : j < s) : ((List.range n).flatMap F)[p * s + j]? = (F p)[j]? := by
  have hl := fm_len F hs (List.range p)
  rw [List.length_range] at hl
  rw [fm_split F hp, List.append_assoc, List.getElem?_append_right (by omega), hl, Nat.add_sub_cancel_left, List.getElem?_append_left (by rw [hs]; exact hj)]
theorem fm_set {s : Nat} (F F' : Nat → List Value) (hs : ∀ i, (F i).length = s) {n p : Nat} (hp : p < n) (v : List Value) (hv : v.length = s) (hF : F' = fun i => if i = p then v else F i) :
    ((List.range n).flatMap F).take (p * s) ++ v ++ ((List.range n).flatMap F).drop (p * s + v.length) = (List.range n).flatMap F' := by
  have hl := fm_len F hs (List.range p)
  rw [List.length_range] at hl
  have h1 : (List.range p).flatMap F' = (List.range p).flatMap F := by
    subst hF
    exact fm_congr fun i hi => by rw [if_neg (by have := List.mem_range.1 hi; omega)]
  have h2 : (List.range' (p + 1) (n - (p + 1))).flatMap F' = (List.range' (p + 1) (n - (p + 1))).flatMap F := by
    subst hF
    exact fm_congr fun i hi => by rw [if_neg (by have := (List.mem_range'_1.1 hi).1; omega)]
  rw [fm_split F hp, fm_split F' hp, h1, h2, show F' p = v by subst hF; simp]
  congr 1
  · congr 1
    rw [List.append_assoc, List.take_append_of_le_length (by omega), List.take_of_length_le (by omega)]
  · rw [hv, List.drop_append_of_le_length (by rw [List.length_append, hl, hs]; exact Nat.le_refl _), List.drop_of_length_le (by rw [List.length_append, hl, hs]; exact Nat.le_refl _), List.nil_append]
/-- A block of the document's. -/
def ab : Option (Int × Int) → List Value
  | some (p, r) => [.bool true, .int .i64 p, .int .i64 r]
  | none => [.bool false, .int .i64 0, .int .i64 0]
theorem ab_len (x : Option (Int × Int)) : (ab x).length = 3 := by cases x <;> rfl
theorem ab_one (x : Option (Int × Int)) : ∀ u ∈ ab x, u.oneCell' = true := by cases x <;> simp [ab, Value.oneCell']
def abs_ (n : Nat) (f : Nat → Option (Int × Int)) : List Value := (List.range n).flatMap fun i => ab (f i)
theorem abs_len (n : Nat) (f : Nat → Option (Int × Int)) : (abs_ n f).length = n * 3 := by
  unfold abs_
  rw [fm_len _ (fun i => ab_len _), List.length_range]
theorem abs_at {n p j : Nat} (f : Nat → Option (Int × Int)) (hp : p < n) (hj : j < 3) : (abs_ n f)[p * 3 + j]? = (ab (f p))[j]? := fm_at _ (fun i => ab_len _) hp hj
theorem abs_set {n p : Nat} {f f' : Nat → Option (Int × Int)} (hp : p < n) (v : Option (Int × Int)) (hf : f' = fun i => if i = p then v else f i) : (abs_ n f).take (p * 3) ++ ab v ++ (abs_ n f).drop (p * 3 + (ab v).length) = abs_ n f' := by
  refine fm_set _ _ (fun i => ab_len _) hp (ab v) (ab_len v) ?_
  funext i
  subst hf
  by_cases e : i = p
  · simp [e]
  · simp [e]
theorem abs_none (n : Nat) : (madeCells #[Value.bool false, .int .i64 0, .int .i64 0] (n * 3)).toList = abs_ n fun _ => none := by
  apply List.ext_getElem?
  intro i
  by_cases hi : i < n * 3
  · have h1 : i / 3 < n := by omega
    have h2 := abs_at (n := n) (p := i / 3) (j := i % 3) (fun _ => none) h1 (by omega)
    rw [show i / 3 * 3 + i % 3 = i by omega] at h2
    rw [h2]
    have h3 : i % 3 < 3 := by omega
    simp only [madeCells, Array.getElem?_toList, Array.getElem?_map, List.size_toArray, List.length_cons, List.length_nil]
    rw [Array.getElem?_range]
    rw [if_pos hi]
    rcases (show i % 3 = 0 ∨ i % 3 = 1 ∨ i % 3 = 2 by omega) with h | h | h <;> simp [h, ab]
  · rw [List.getElem?_eq_none (by simp [madeCells]; omega), List.getElem?_eq_none (by rw [abs_len]; omega)]
end Go.Proofs.Ytfdfjnepfgabaaa
