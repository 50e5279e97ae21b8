/- Layer 13: the mathematics of maps: which pieces are a map, where a block lies, what Split, Merge, Move and Changed make. Nothing of the program is named here. -/
import Derived.Test.YtdcggnfplfgcnaaTurn
set_option linter.all false
namespace Go.Proofs.Ytdcggnfplfgcnaa
open Go.RowKit
namespace Sma

/-- A piece: the blocks from fr to en less 1 are of node nd. -/
structure Pc where
  fr : Int
  en : Int
  nd : Int
deriving DecidableEq
/-- A map. -/
structure Mp where
  v : Int
  n : Int
  ps : List Pc
def zM : Mp := ⟨0, 0, []⟩
def ndB (z : Int) : Bool := decide (0 ≤ z ∧ z < 16)
/-- The pieces, one behind the other, are the blocks from e to n less 1. -/
def runB : Int → Int → List Pc → Bool
  | e, n, [] => decide (e = n)
  | e, n, p :: l => decide (p.fr = e) && decide (e < p.en) && ndB p.nd && runB p.en n l
def Mp.right (m : Mp) : Bool := decide (1 ≤ m.v ∧ m.v ≤ 1099511627776) && decide (1 ≤ m.n ∧ m.n ≤ 1024) && decide (m.ps.length ≤ 16) && runB 0 m.n m.ps
def inB (a : Int) (p : Pc) : Bool := decide (p.fr ≤ a ∧ a < p.en)
def frB (a : Int) (p : Pc) : Bool := decide (p.fr = a)
/-- The number of the first piece that is such a one. -/
def pos (f : Pc → Bool) : Nat → List Pc → Option Nat
  | _, [] => none
  | k, p :: l => if f p then some k else pos f (k + 1) l
def posI : Option Nat → Int
  | some i => (i : Int)
  | none => -1
/-- A block's node. -/
def nodeL (a : Int) : List Pc → Int
  | [] => 0
  | p :: l => if inB a p then p.nd else nodeL a l

theorem run_cons {e n : Int} {p : Pc} {l : List Pc} : runB e n (p :: l) = true ↔ p.fr = e ∧ e < p.en ∧ (0 ≤ p.nd ∧ p.nd < 16) ∧ runB p.en n l = true := by
  simp [runB, ndB, and_assoc]
theorem run_nil {e n : Int} : runB e n [] = true ↔ e = n := by simp [runB]
theorem run_app {e n : Int} : ∀ {l r : List Pc}, runB e n (l ++ r) = true ↔ ∃ x, runB e x l = true ∧ runB x n r = true
  | [], r => by
    simp only [List.nil_append, run_nil]
    constructor
    · intro h; exact ⟨e, rfl, h⟩
    · rintro ⟨x, rfl, h⟩; exact h
  | p :: l, r => by
    rw [List.cons_append, run_cons, run_app (l := l) (r := r)]
    constructor
    · rintro ⟨h1, h2, h3, x, h4, h5⟩; exact ⟨x, run_cons.2 ⟨h1, h2, h3, h4⟩, h5⟩
    · rintro ⟨x, h, h5⟩
      obtain ⟨h1, h2, h3, h4⟩ := run_cons.1 h
      exact ⟨h1, h2, h3, x, h4, h5⟩
theorem run_le {n : Int} : ∀ {l : List Pc} {e : Int}, runB e n l = true → e ≤ n
  | [], e, h => by have := run_nil.1 h; omega
  | p :: l, e, h => by
    obtain ⟨h1, h2, h3, h4⟩ := run_cons.1 h
    have := run_le h4
    omega
theorem run_mem {n : Int} : ∀ {l : List Pc} {e : Int}, runB e n l = true → ∀ p ∈ l, e ≤ p.fr ∧ p.fr < p.en ∧ p.en ≤ n ∧ 0 ≤ p.nd ∧ p.nd < 16
  | [], e, h, p, hp => by cases hp
  | q :: l, e, h, p, hp => by
    obtain ⟨h1, h2, h3, h4⟩ := run_cons.1 h
    rcases List.mem_cons.1 hp with rfl | hp
    · have := run_le h4; omega
    · have := run_mem h4 p hp; omega
theorem run_len {n : Int} : ∀ {l : List Pc} {e : Int}, runB e n l = true → (l.length : Int) ≤ n - e
  | [], e, h => by have := run_nil.1 h; simp; omega
  | q :: l, e, h => by
    obtain ⟨h1, h2, h3, h4⟩ := run_cons.1 h
    have := run_len h4
    simp only [List.length_cons]
    omega
theorem run_at {n a : Int} : ∀ {l : List Pc} {e : Int}, runB e n l = true → e ≤ a → a < n → ∃ pre p post, l = pre ++ p :: post ∧ runB e p.fr pre = true ∧ p.fr ≤ a ∧ a < p.en ∧ (0 ≤ p.nd ∧ p.nd < 16) ∧ runB p.en n post = true
  | [], e, h, h0, h1 => by have := run_nil.1 h; omega
  | p :: l, e, h, h0, h1 => by
    obtain ⟨g1, g2, g3, g4⟩ := run_cons.1 h
    by_cases hp : a < p.en
    · exact ⟨[], p, l, rfl, run_nil.2 g1.symm, by omega, hp, g3, g4⟩
    · obtain ⟨pre, q, post, rfl, k1, k2, k3, k4, k5⟩ := run_at g4 (by omega) h1
      exact ⟨p :: pre, q, post, rfl, run_cons.2 ⟨g1, g2, g3, k1⟩, k2, k3, k4, k5⟩

theorem pos_mid {f : Pc → Bool} {p : Pc} {post : List Pc} (hp : f p = true) : ∀ {pre : List Pc} {k : Nat}, (∀ q ∈ pre, f q = false) → pos f k (pre ++ p :: post) = some (k + pre.length)
  | [], k, _ => by simp [pos, hp]
  | q :: pre, k, h => by
    rw [List.cons_append, pos, h q (by simp)]
    simp only [Bool.false_eq_true, if_false]
    rw [pos_mid hp (fun r hr => h r (by simp [hr])), List.length_cons]
    congr 1; omega
theorem pos_no {f : Pc → Bool} : ∀ {l : List Pc} {k : Nat}, (∀ q ∈ l, f q = false) → pos f k l = none
  | [], k, _ => rfl
  | q :: l, k, h => by
    rw [pos, h q (by simp)]
    simp only [Bool.false_eq_true, if_false]
    exact pos_no fun r hr => h r (by simp [hr])
theorem nodeL_mid {a : Int} {p : Pc} {post : List Pc} (hp : inB a p = true) : ∀ {pre : List Pc}, (∀ q ∈ pre, inB a q = false) → nodeL a (pre ++ p :: post) = p.nd
  | [], _ => by simp [nodeL, hp]
  | q :: pre, h => by
    rw [List.cons_append, nodeL, h q (by simp)]
    simp only [Bool.false_eq_true, if_false]
    exact nodeL_mid hp (fun r hr => h r (by simp [hr]))
theorem nodeL_skip {a : Int} {r : List Pc} : ∀ {pre : List Pc}, (∀ q ∈ pre, inB a q = false) → nodeL a (pre ++ r) = nodeL a r
  | [], _ => rfl
  | q :: pre, h => by
    rw [List.cons_append, nodeL, h q (by simp)]
    simp only [Bool.false_eq_true, if_false]
    exact nodeL_skip (fun r hr => h r (by simp [hr]))
theorem in_yes {a : Int} {p : Pc} (h0 : p.fr ≤ a) (h1 : a < p.en) : inB a p = true := by simp [inB, h0, h1]
theorem in_no {a : Int} {p : Pc} (h : a < p.fr ∨ p.en ≤ a) : inB a p = false := by simp [inB]; omega
theorem pre_no {e x a : Int} {pre : List Pc} (h : runB e x pre = true) (ha : x ≤ a) : ∀ q ∈ pre, inB a q = false := fun q hq => by
  have := run_mem h q hq
  exact in_no (by omega)
theorem out_no {e x a : Int} {l : List Pc} (h : runB e x l = true) (ha : a < e ∨ x ≤ a) : ∀ q ∈ l, inB a q = false := fun q hq => by
  have := run_mem h q hq
  exact in_no (by omega)

/-! ### a map's parts at a block -/
structure At (m : Mp) (a : Int) (pre : List Pc) (p : Pc) (post : List Pc) : Prop where
  ps : m.ps = pre ++ p :: post
  pre : runB 0 p.fr pre = true
  lo : p.fr ≤ a
  hi : a < p.en
  nd : 0 ≤ p.nd ∧ p.nd < 16
  post : runB p.en m.n post = true
theorem right_is {m : Mp} (h : m.right = true) : (1 ≤ m.v ∧ m.v ≤ 1099511627776) ∧ (1 ≤ m.n ∧ m.n ≤ 1024) ∧ m.ps.length ≤ 16 ∧ runB 0 m.n m.ps = true := by
  simp only [Mp.right, Bool.and_eq_true, decide_eq_true_eq] at h
  exact ⟨h.1.1.1, h.1.1.2, h.1.2, h.2⟩
theorem right_of {m : Mp} (h : (1 ≤ m.v ∧ m.v ≤ 1099511627776) ∧ (1 ≤ m.n ∧ m.n ≤ 1024) ∧ m.ps.length ≤ 16 ∧ runB 0 m.n m.ps = true) : m.right = true := by
  simp only [Mp.right, Bool.and_eq_true, decide_eq_true_eq]
  exact ⟨⟨⟨h.1, h.2.1⟩, h.2.2.1⟩, h.2.2.2⟩
theorem at_of {m : Mp} (h : m.right = true) {a : Int} (h0 : 0 ≤ a) (h1 : a < m.n) : ∃ pre p post, At m a pre p post := by
  obtain ⟨_, _, _, hr⟩ := right_is h
  obtain ⟨pre, p, post, e, k1, k2, k3, k4, k5⟩ := run_at hr h0 h1
  exact ⟨pre, p, post, ⟨e, k1, k2, k3, k4, k5⟩⟩
section
variable {m : Mp} {a : Int} {pre post : List Pc} {p : Pc}
theorem At.fr0 (h : At m a pre p post) : 0 ≤ p.fr := run_le h.pre
theorem At.en (h : At m a pre p post) : p.en ≤ m.n := run_le h.post
theorem At.pos (h : At m a pre p post) : pos (inB a) 0 m.ps = some pre.length := by
  rw [h.ps, pos_mid (in_yes h.lo h.hi) (pre_no h.pre h.lo), Nat.zero_add]
theorem At.get (h : At m a pre p post) : m.ps[pre.length]? = some p := by rw [h.ps]; simp
theorem At.lt (h : At m a pre p post) : pre.length < m.ps.length := by rw [h.ps]; simp
theorem At.take (h : At m a pre p post) : m.ps.take pre.length = pre := by rw [h.ps]; simp
theorem At.drop (h : At m a pre p post) : m.ps.drop (pre.length + 1) = post := by rw [h.ps]; simp
theorem At.len (h : At m a pre p post) : m.ps.length = pre.length + 1 + post.length := by rw [h.ps]; simp; omega
theorem At.node (h : At m a pre p post) : nodeL a m.ps = p.nd := by rw [h.ps, nodeL_mid (in_yes h.lo h.hi) (pre_no h.pre h.lo)]
end
theorem pos_none {m : Mp} {a : Int} (h : m.right = true) (ha : a < 0 ∨ m.n ≤ a) : pos (inB a) 0 m.ps = none := pos_no (out_no (right_is h).2.2.2 ha)

/-! ### what the functions answer: an error's number, and a map -/
def findO : Option Nat → Int × Int
  | some i => ((i : Int), 0)
  | none => (0, 9)
def findA (m : Mp) (a : Int) : Int × Int := if m.right = false then (0, 1) else findO (pos (inB a) 0 m.ps)
def nextA (m : Mp) (l : List Pc) : Mp × Int := if 1099511627776 ≤ m.v then (zM, 6) else (⟨m.v + 1, m.n, l⟩, 0)
def splitA (m : Mp) (a : Int) : Mp × Int :=
  if m.right = false ∨ a < 1 ∨ m.n ≤ a then (zM, 1) else match pos (inB a) 0 m.ps with
    | none => (zM, 1)
    | some i => match m.ps[i]? with
      | none => (zM, 1)
      | some p => if p.fr = a then (zM, 10) else if 16 ≤ m.ps.length then (zM, 6) else nextA m (m.ps.take i ++ ([⟨p.fr, a, p.nd⟩, ⟨a, p.en, p.nd⟩] ++ m.ps.drop (i + 1)))
def mergeA (m : Mp) (a : Int) : Mp × Int :=
  if m.right = false then (zM, 1) else match pos (inB a) 0 m.ps with
    | none => (zM, 9)
    | some i => match m.ps[i]? with
      | none => (zM, 9)
      | some p => if i = 0 ∨ p.fr ≠ a then (zM, 9) else match m.ps[i - 1]? with
        | none => (zM, 9)
        | some q => if q.nd ≠ p.nd then (zM, 1) else nextA m (m.ps.take (i - 1) ++ ([⟨q.fr, p.en, p.nd⟩] ++ m.ps.drop (i + 1)))
def moveA (m : Mp) (a nd : Int) : Mp × Int :=
  if m.right = false then (zM, 1) else match pos (inB a) 0 m.ps with
    | none => (zM, 9)
    | some i => if ndB nd = false then (zM, 1) else match m.ps[i]? with
      | none => (zM, 9)
      | some p => if p.nd = nd then (zM, 10) else nextA m (m.ps.take i ++ ([⟨p.fr, p.en, nd⟩] ++ m.ps.drop (i + 1)))

theorem find_no {m : Mp} {a : Int} (h : m.right = false) : findA m a = (0, 1) := by simp [findA, h]
theorem find_none {m : Mp} {a : Int} (h : m.right = true) (ha : a < 0 ∨ m.n ≤ a) : findA m a = (0, 9) := by simp [findA, findO, h, pos_none h ha]
section
variable {m : Mp} {a : Int} {pre post : List Pc} {p : Pc}
theorem find_at (hr : m.right = true) (h : At m a pre p post) : findA m a = ((pre.length : Int), 0) := by simp [findA, findO, hr, h.pos]
theorem next_far {l : List Pc} (h : 1099511627776 ≤ m.v) : nextA m l = (zM, 6) := by simp [nextA, h]
theorem next_ok {l : List Pc} (h : m.v < 1099511627776) : nextA m l = (⟨m.v + 1, m.n, l⟩, 0) := by unfold nextA; rw [if_neg (by omega)]
theorem split_bad (h : m.right = false ∨ a < 1 ∨ m.n ≤ a) : splitA m a = (zM, 1) := by unfold splitA; rw [if_pos h]
theorem split_at (hr : m.right = true) (h : At m a pre p post) (h1 : 1 ≤ a) : splitA m a = if p.fr = a then (zM, 10) else if 16 ≤ m.ps.length then (zM, 6) else nextA m (pre ++ ([⟨p.fr, a, p.nd⟩, ⟨a, p.en, p.nd⟩] ++ post)) := by
  have := h.en
  have := h.hi
  unfold splitA
  rw [if_neg (by simp [hr]; omega), h.pos]
  simp only [h.get, h.take, h.drop]
theorem merge_no (h : m.right = false) : mergeA m a = (zM, 1) := by simp [mergeA, h]
theorem merge_none (h : m.right = true) (ha : a < 0 ∨ m.n ≤ a) : mergeA m a = (zM, 9) := by simp [mergeA, h, pos_none h ha]
theorem merge_in (hr : m.right = true) (h : At m a pre p post) (hf : pre = [] ∨ p.fr ≠ a) : mergeA m a = (zM, 9) := by
  unfold mergeA
  rw [if_neg (by simp [hr]), h.pos]
  simp only [h.get]
  rw [if_pos (hf.imp (fun e => by rw [e]; rfl) id)]
theorem merge_at {q : Pc} {pre0 : List Pc} (hr : m.right = true) (h : At m a (pre0 ++ [q]) p post) (hf : p.fr = a) : mergeA m a = if q.nd ≠ p.nd then (zM, 1) else nextA m (pre0 ++ ([⟨q.fr, p.en, p.nd⟩] ++ post)) := by
  have hps := h.ps
  unfold mergeA
  rw [if_neg (by simp [hr]), h.pos]
  have e : (pre0 ++ [q]).length - 1 = pre0.length := by simp
  have e1 : m.ps[pre0.length]? = some q := by rw [hps]; simp
  have e2 : m.ps.take pre0.length = pre0 := by rw [hps]; simp
  simp only [h.get, h.drop, e, e1, e2]
  rw [if_neg (by simp [hf])]
theorem move_no {nd : Int} (h : m.right = false) : moveA m a nd = (zM, 1) := by simp [moveA, h]
theorem move_none {nd : Int} (h : m.right = true) (ha : a < 0 ∨ m.n ≤ a) : moveA m a nd = (zM, 9) := by simp [moveA, h, pos_none h ha]
theorem move_at {nd : Int} (hr : m.right = true) (h : At m a pre p post) : moveA m a nd = if ndB nd = false then (zM, 1) else if p.nd = nd then (zM, 10) else nextA m (pre ++ ([⟨p.fr, p.en, nd⟩] ++ post)) := by
  unfold moveA
  rw [if_neg (by simp [hr]), h.pos]
  simp only [h.get, h.take, h.drop]
/-- Where a piece begins at a block: it is the block's. -/
theorem pos_fr (h : At m a pre p post) : pos (frB a) 0 m.ps = if p.fr = a then some pre.length else none := by
  have hpre : ∀ q ∈ pre, frB a q = false := fun q hq => by
    have := run_mem h.pre q hq
    have := h.lo
    simp [frB]; omega
  rw [h.ps]
  by_cases hf : p.fr = a
  · rw [if_pos hf, pos_mid (by simp [frB, hf]) hpre, Nat.zero_add]
  · rw [if_neg hf]
    refine pos_no fun q hq => ?_
    rcases List.mem_append.1 hq with hq | hq
    · exact hpre q hq
    · rcases List.mem_cons.1 hq with rfl | hq
      · simp [frB, hf]
      · have := run_mem h.post q hq
        have := h.hi
        simp [frB]; omega
end
theorem pos_fr_out {m : Mp} {a : Int} (h : m.right = true) (ha : a < 0 ∨ m.n ≤ a) : pos (frB a) 0 m.ps = none := pos_no fun q hq => by
  have := run_mem (right_is h).2.2.2 q hq
  simp [frB]; omega

/-! ### what is made is a map, and which node a block has in it (SmapOne, SmapNodes) -/
theorem next_is {m x : Mp} {l : List Pc} (h : nextA m l = (x, 0)) : m.v < 1099511627776 ∧ x = ⟨m.v + 1, m.n, l⟩ := by
  unfold nextA at h
  split at h
  · simp at h
  · simp only [Prod.mk.injEq, and_true] at h
    exact ⟨by omega, h.symm⟩
/-- A made map. -/
structure Made (m x : Mp) : Prop where
  right : x.right = true
  v : x.v = m.v + 1
  n : x.n = m.n
theorem made_of {m x : Mp} {l : List Pc} (hr : m.right = true) (h : nextA m l = (x, 0)) (hl : l.length ≤ 16) (hrun : runB 0 m.n l = true) : Made m x := by
  obtain ⟨hv, rfl⟩ := next_is h
  obtain ⟨h1, h2, h3, h4⟩ := right_is hr
  exact ⟨right_of ⟨⟨by simp only; omega, by simp only; omega⟩, h2, hl, hrun⟩, rfl, rfl⟩
theorem split_ok {m x : Mp} {a : Int} (h : splitA m a = (x, 0)) : m.right = true ∧ 1 ≤ a ∧ a < m.n ∧ ∃ pre p post, At m a pre p post ∧ p.fr < a ∧ m.ps.length < 16 ∧ nextA m (pre ++ ([⟨p.fr, a, p.nd⟩, ⟨a, p.en, p.nd⟩] ++ post)) = (x, 0) := by
  by_cases hb : m.right = false ∨ a < 1 ∨ m.n ≤ a
  · rw [split_bad hb] at h; simp at h
  · have hr : m.right = true := by cases e : m.right with | true => rfl | false => exact absurd (Or.inl e) hb
    have h1 : 1 ≤ a := by have := fun h => hb (.inr (.inl h)); omega
    have h2 : a < m.n := by have := fun h => hb (.inr (.inr h)); omega
    obtain ⟨pre, p, post, hat⟩ := at_of hr (by omega) h2
    rw [split_at hr hat h1] at h
    split at h
    · simp at h
    · split at h
      · simp at h
      · have := hat.lo
        exact ⟨hr, h1, h2, pre, p, post, hat, by omega, by omega, h⟩
theorem split_made {m x : Mp} {a : Int} (h : splitA m a = (x, 0)) : Made m x := by
  obtain ⟨hr, h1, h2, pre, p, post, hat, h3, h4, h5⟩ := split_ok h
  refine made_of hr h5 (by have := hat.len; simp; omega) (run_app.2 ⟨_, hat.pre, ?_⟩)
  exact run_cons.2 ⟨rfl, h3, hat.nd, run_cons.2 ⟨rfl, hat.hi, hat.nd, hat.post⟩⟩
theorem merge_ok {m x : Mp} {a : Int} (h : mergeA m a = (x, 0)) : m.right = true ∧ ∃ pre q p post, At m a (pre ++ [q]) p post ∧ p.fr = a ∧ q.nd = p.nd ∧ nextA m (pre ++ ([⟨q.fr, p.en, p.nd⟩] ++ post)) = (x, 0) := by
  cases hr : m.right with
  | false => rw [merge_no hr] at h; simp at h
  | true =>
    by_cases ha : a < 0 ∨ m.n ≤ a
    · rw [merge_none hr ha] at h; simp at h
    · obtain ⟨pre, p, post, hat⟩ := at_of hr (a := a) (by omega) (by omega)
      by_cases hf : pre = [] ∨ p.fr ≠ a
      · rw [merge_in hr hat hf] at h; simp at h
      · have hf2 : p.fr = a := Classical.byContradiction fun e => hf (.inr e)
        rcases List.eq_nil_or_concat pre with e | ⟨pre0, q, e⟩
        · exact absurd (.inl e) hf
        · rw [List.concat_eq_append] at e
          subst e
          rw [merge_at hr hat hf2] at h
          split at h
          · simp at h
          · rename_i hn
            exact ⟨rfl, pre0, q, p, post, hat, hf2, Classical.byContradiction hn, h⟩
theorem run_last {e x : Int} {pre : List Pc} {q : Pc} (h : runB e x (pre ++ [q]) = true) : runB e q.fr pre = true ∧ q.fr < q.en ∧ (0 ≤ q.nd ∧ q.nd < 16) ∧ q.en = x := by
  obtain ⟨y, h1, h2⟩ := run_app.1 h
  obtain ⟨g1, g2, g3, g4⟩ := run_cons.1 h2
  subst g1
  exact ⟨h1, g2, g3, run_nil.1 g4⟩
theorem merge_made {m x : Mp} {a : Int} (h : mergeA m a = (x, 0)) : Made m x := by
  obtain ⟨hr, pre, q, p, post, hat, h1, h2, h3⟩ := merge_ok h
  obtain ⟨g1, g2, g3, g4⟩ := run_last hat.pre
  refine made_of hr h3 (by have := hat.len; have := (right_is hr).2.2.1; simp at *; omega) (run_app.2 ⟨_, g1, ?_⟩)
  exact run_cons.2 ⟨rfl, by have := hat.hi; simp only; omega, hat.nd, hat.post⟩
theorem move_ok {m x : Mp} {a nd : Int} (h : moveA m a nd = (x, 0)) : m.right = true ∧ (0 ≤ nd ∧ nd < 16) ∧ ∃ pre p post, At m a pre p post ∧ nextA m (pre ++ ([⟨p.fr, p.en, nd⟩] ++ post)) = (x, 0) := by
  cases hr : m.right with
  | false => rw [move_no hr] at h; simp at h
  | true =>
    by_cases ha : a < 0 ∨ m.n ≤ a
    · rw [move_none hr ha] at h; simp at h
    · obtain ⟨pre, p, post, hat⟩ := at_of hr (a := a) (by omega) (by omega)
      rw [move_at hr hat] at h
      split at h
      · simp at h
      · split at h
        · simp at h
        · rename_i hn _
          exact ⟨rfl, by simpa [ndB] using hn, pre, p, post, hat, h⟩
theorem move_made {m x : Mp} {a nd : Int} (h : moveA m a nd = (x, 0)) : Made m x := by
  obtain ⟨hr, hn, pre, p, post, hat, h3⟩ := move_ok h
  refine made_of hr h3 (by have := hat.len; have := (right_is hr).2.2.1; simp at *; omega) (run_app.2 ⟨_, hat.pre, ?_⟩)
  exact run_cons.2 ⟨rfl, by have := hat.lo; have := hat.hi; simp only; omega, hn, hat.post⟩
theorem nodeL_cons {i : Int} {p : Pc} {l : List Pc} : nodeL i (p :: l) = if inB i p = true then p.nd else nodeL i l := rfl
/-- Unlike middles that have the same nodes. -/
theorem nodeL_same {i : Int} {c d : List Pc} (h : nodeL i c = nodeL i d) : ∀ pre : List Pc, nodeL i (pre ++ c) = nodeL i (pre ++ d)
  | [] => h
  | q :: pre => by rw [List.cons_append, List.cons_append, nodeL_cons, nodeL_cons, nodeL_same h pre]
theorem split_node {m x : Mp} {a : Int} (h : splitA m a = (x, 0)) (i : Int) : nodeL i x.ps = nodeL i m.ps := by
  obtain ⟨hr, h1, h2, pre, p, post, hat, h3, h4, h5⟩ := split_ok h
  obtain ⟨_, rfl⟩ := next_is h5
  have hi := hat.hi
  rw [hat.ps]
  refine nodeL_same ?_ pre
  simp only [List.cons_append, List.nil_append, nodeL_cons, inB, decide_eq_true_eq]
  by_cases c1 : p.fr ≤ i ∧ i < a
  · rw [if_pos c1, if_pos (by omega)]
  · rw [if_neg c1]
    by_cases c2 : a ≤ i ∧ i < p.en
    · rw [if_pos c2, if_pos (by omega)]
    · rw [if_neg c2, if_neg (by omega)]
theorem merge_node {m x : Mp} {a : Int} (h : mergeA m a = (x, 0)) (i : Int) : nodeL i x.ps = nodeL i m.ps := by
  obtain ⟨hr, pre, q, p, post, hat, h1, h2, h3⟩ := merge_ok h
  obtain ⟨g1, g2, g3, g4⟩ := run_last hat.pre
  obtain ⟨_, rfl⟩ := next_is h3
  have hi := hat.hi
  rw [hat.ps, List.append_assoc]
  refine nodeL_same ?_ pre
  simp only [List.cons_append, List.nil_append, nodeL_cons, inB, decide_eq_true_eq]
  by_cases c1 : q.fr ≤ i ∧ i < q.en
  · rw [if_pos c1, if_pos (by omega), h2]
  · rw [if_neg c1]
    by_cases c2 : p.fr ≤ i ∧ i < p.en
    · rw [if_pos c2, if_pos (by omega)]
    · rw [if_neg c2, if_neg (by omega)]
theorem move_node {m x : Mp} {a nd : Int} (h : moveA m a nd = (x, 0)) {pre post : List Pc} {p : Pc} (hat : At m a pre p post) (i : Int) : nodeL i x.ps = if p.fr ≤ i ∧ i < p.en then nd else nodeL i m.ps := by
  obtain ⟨hr, hn, pre', p', post', hat', h3⟩ := move_ok h
  have e := hat.pos.symm.trans hat'.pos
  have e1 : pre.length = pre'.length := by simpa using e
  have e2 : p = p' := by have := hat.get; rw [e1, hat'.get] at this; simpa using this.symm
  have e3 : pre = pre' := by rw [← hat.take, e1, hat'.take]
  have e4 : post = post' := by rw [← hat.drop, e1, hat'.drop]
  subst e2 e3 e4
  obtain ⟨_, rfl⟩ := next_is h3
  rw [hat.ps]
  by_cases c : p.fr ≤ i ∧ i < p.en
  · rw [if_pos c]
    rw [nodeL_skip (pre_no hat.pre c.1)]
    simp only [List.cons_append, List.nil_append, nodeL_cons, inB, decide_eq_true_eq]
    rw [if_pos c]
  · rw [if_neg c]
    refine nodeL_same ?_ pre
    simp only [List.cons_append, List.nil_append, nodeL_cons, inB, decide_eq_true_eq]
    rw [if_neg c, if_neg c]
/-- SmapBack: Merge undoes Split. -/
theorem split_merge {m x : Mp} {a : Int} (h : splitA m a = (x, 0)) (hv : x.v < 1099511627776) : ∃ y, mergeA x a = (y, 0) ∧ y.ps = m.ps ∧ y.v = m.v + 2 := by
  have hm := split_made h
  obtain ⟨hr, h1, h2, pre, p, post, hat, h3, h4, h5⟩ := split_ok h
  obtain ⟨_, rfl⟩ := next_is h5
  have ha : At (⟨m.v + 1, m.n, pre ++ ([⟨p.fr, a, p.nd⟩, ⟨a, p.en, p.nd⟩] ++ post)⟩ : Mp) a (pre ++ [⟨p.fr, a, p.nd⟩]) ⟨a, p.en, p.nd⟩ post :=
    ⟨by simp, run_app.2 ⟨_, hat.pre, run_cons.2 ⟨rfl, h3, hat.nd, run_nil.2 rfl⟩⟩, Int.le_refl _, hat.hi, hat.nd, hat.post⟩
  refine ⟨_, by rw [merge_at hm.right ha rfl, if_neg (by simp), next_ok hv], ?_, by simp only; omega⟩
  rw [hat.ps]
  simp

/-! ### which blocks have another node (SmapChanged) -/
/-- The nodes of all blocks. -/
def own : List Pc → List Int
  | [] => []
  | p :: l => List.replicate (p.en - p.fr).toNat p.nd ++ own l
theorem own_app (l r : List Pc) : own (l ++ r) = own l ++ own r := by
  induction l with
  | nil => rfl
  | cons p l ih => simp [own, ih]
theorem own_len {n : Int} : ∀ {l : List Pc} {e : Int}, runB e n l = true → ((own l).length : Int) = n - e
  | [], e, h => by have := run_nil.1 h; simp [own]; omega
  | p :: l, e, h => by
    obtain ⟨h1, h2, h3, h4⟩ := run_cons.1 h
    have := own_len h4
    have := run_le h4
    simp only [own, List.length_append, List.length_replicate]
    omega
theorem own_at {n : Int} : ∀ {l : List Pc} {e : Int}, runB e n l = true → ∀ k : Nat, e + (k : Int) < n → (own l)[k]? = some (nodeL (e + k) l)
  | [], e, h, k, hk => by have := run_nil.1 h; omega
  | p :: l, e, h, k, hk => by
    obtain ⟨h1, h2, h3, h4⟩ := run_cons.1 h
    rw [own, nodeL_cons]
    by_cases c : k < (p.en - p.fr).toNat
    · rw [List.getElem?_append_left (by simpa using c), List.getElem?_replicate, if_pos c, if_pos (in_yes (by omega) (by omega))]
    · rw [List.getElem?_append_right (by simp; omega), List.length_replicate, if_neg (by rw [in_no (by omega)]; simp)]
      have := own_at h4 (k - (p.en - p.fr).toNat) (by omega)
      rw [this]
      congr 2
      omega
theorem own_nd {n : Int} {l : List Pc} {e : Int} (h : runB e n l = true) : ∀ z ∈ own l, 0 ≤ z ∧ z < 16 := by
  induction l generalizing e with
  | nil => intro z hz; cases hz
  | cons p l ih =>
    obtain ⟨h1, h2, h3, h4⟩ := run_cons.1 h
    intro z hz
    rw [own] at hz
    rcases List.mem_append.1 hz with hz | hz
    · rw [List.eq_of_mem_replicate hz]; exact h3
    · exact ih h4 z hz
/-- One block more. -/
def pushC (l : List Pc) (b nd : Int) : List Pc := match l.getLast? with
  | some y => if y.en = b ∧ y.nd = nd then l.dropLast ++ [⟨y.fr, y.en + 1, y.nd⟩] else l ++ [⟨b, b + 1, nd⟩]
  | none => [⟨b, b + 1, nd⟩]
theorem pushC_nil (b nd : Int) : pushC [] b nd = [⟨b, b + 1, nd⟩] := rfl
theorem pushC_snoc (p : List Pc) (y : Pc) (b nd : Int) : pushC (p ++ [y]) b nd = if y.en = b ∧ y.nd = nd then p ++ [⟨y.fr, y.en + 1, y.nd⟩] else p ++ [y] ++ [⟨b, b + 1, nd⟩] := by
  unfold pushC
  simp
theorem snoc_cases (l : List Pc) : l = [] ∨ ∃ p y, l = p ++ [y] := by
  rcases List.eq_nil_or_concat l with h | ⟨p, y, h⟩
  · exact .inl h
  · exact .inr ⟨p, y, by simpa using h⟩
def chg (f g : Nat → Int) : Nat → List Pc
  | 0 => []
  | k + 1 => if g k = f k then chg f g k else pushC (chg f g k) (k : Int) (g k)
/-- The last piece ends at most here; just here, if the block ahead has another node. -/
def isOpen (f g : Nat → Int) (k : Nat) : Bool := decide (0 < k) && !decide (g (k - 1) = f (k - 1))
theorem chg_last (f g : Nat → Int) : ∀ k : Nat, (∀ q ∈ chg f g k, 0 ≤ q.fr ∧ q.fr < q.en ∧ q.en ≤ (k : Int)) ∧ (∀ p y, chg f g k = p ++ [y] → (y.en = (k : Int) ↔ isOpen f g k = true)) ∧ (isOpen f g k = true → chg f g k ≠ []) ∧ (chg f g k).length ≤ k
  | 0 => by simp [chg, isOpen]
  | k + 1 => by
    obtain ⟨h1, h2, h3, h4⟩ := chg_last f g k
    have ho : isOpen f g (k + 1) = !decide (g k = f k) := by simp [isOpen]
    rw [ho, chg]
    by_cases e : g k = f k
    · rw [if_pos e]
      refine ⟨fun q hq => by have := h1 q hq; omega, fun p y hp => ?_, by simp [e], by omega⟩
      have := h1 y (by rw [hp]; simp)
      simp [e]
      omega
    · rw [if_neg e]
      rcases snoc_cases (chg f g k) with e0 | ⟨p, y, e0⟩
      · rw [e0, pushC_nil]
        refine ⟨fun q hq => by simp at hq; subst hq; simp only; omega, fun p y hp => ?_, by simp, by simp⟩
        have : y = ⟨(k : Int), (k : Int) + 1, g k⟩ := by
          have := congrArg List.getLast? hp
          simpa using this.symm
        subst this
        simp [e]
      · have hy := h1 y (by rw [e0]; simp)
        have hl := h4
        rw [e0] at hl
        simp only [List.length_append, List.length_singleton] at hl
        have key : pushC (p ++ [y]) (k : Int) (g k) = if y.en = (k : Int) ∧ y.nd = g k then p ++ [⟨y.fr, y.en + 1, y.nd⟩] else p ++ [y] ++ [⟨k, (k : Int) + 1, g k⟩] := pushC_snoc _ _ _ _
        rw [e0, key]
        split
        · rename_i hc
          refine ⟨fun q hq => ?_, fun p' y' hp => ?_, by simp, by simp; omega⟩
          · rcases List.mem_append.1 hq with hq | hq
            · have := h1 q (by rw [e0]; simp [hq]); omega
            · simp at hq; subst hq; simp only; omega
          · have : y' = ⟨y.fr, y.en + 1, y.nd⟩ := by
              have := congrArg List.getLast? hp
              simpa using this.symm
            subst this
            simp [e, hc.1]
        · refine ⟨fun q hq => ?_, fun p' y' hp => ?_, by simp, by simp; omega⟩
          · rcases List.mem_append.1 hq with hq | hq
            · have := h1 q (by rw [e0]; exact hq); omega
            · simp at hq; subst hq; simp only; omega
          · have : y' = ⟨(k : Int), (k : Int) + 1, g k⟩ := by
              have := congrArg List.getLast? hp
              simpa using this.symm
            subst this
            simp [e]
def nodeF (m : Mp) (k : Nat) : Int := nodeL (k : Int) m.ps
def changedA (a b : Mp) : List Pc × Int := if a.right = false ∨ b.right = false ∨ a.n ≠ b.n then ([], 1) else (chg (nodeF a) (nodeF b) a.n.toNat, 0)

/-! ### New -/
/-- The pieces of nodes from the number i on, from a block on. -/
def shareL (size rest : Nat) : Nat → Nat → List Int → List Pc
  | _, _, [] => []
  | i, a, x :: l => ⟨(a : Int), ((a + size + (if i < rest then 1 else 0) : Nat) : Int), x⟩ :: shareL size rest (i + 1) (a + size + (if i < rest then 1 else 0)) l
def newA (n : Int) (l : List Int) : Mp × Int :=
  if n < 1 ∨ 1024 < n ∨ l = [] ∨ l.all ndB = false then (zM, 1) else if 16 < l.length ∨ n < (l.length : Int) then (zM, 6) else (⟨1, n, shareL (n.toNat / l.length) (n.toNat % l.length) 0 0 l⟩, 0)
/-- What comes from the node number i on. -/
def cutA (size rest : Nat) (i : Nat) : Nat := i * size + min i rest
theorem cut_succ (size rest i : Nat) : cutA size rest (i + 1) = cutA size rest i + size + (if i < rest then 1 else 0) := by
  unfold cutA
  rw [Nat.succ_mul]
  split <;> omega
theorem shareL_len (size rest : Nat) : ∀ (l : List Int) (i a : Nat), (shareL size rest i a l).length = l.length
  | [], _, _ => rfl
  | x :: l, i, a => by rw [shareL, List.length_cons, shareL_len size rest l, List.length_cons]
/-- So many first ones. -/
theorem shareL_take (size rest : Nat) (l : List Int) {k : Nat} (hk : k < l.length) : (shareL size rest 0 0 l).take (k + 1) = (shareL size rest 0 0 l).take k ++ [⟨(cutA size rest k : Int), (cutA size rest (k + 1) : Int), l[k]⟩] := by
  have H : ∀ (l : List Int) (i a k : Nat) (hk : k < l.length), a = cutA size rest i → (shareL size rest i a l)[k]? = some ⟨(cutA size rest (i + k) : Int), (cutA size rest (i + k + 1) : Int), l[k]⟩ := by
    intro l
    induction l with
    | nil => intro i a k hk; simp at hk
    | cons x l ih =>
      intro i a k hk ha
      rw [shareL]
      cases k with
      | zero => simp [cut_succ, ha]
      | succ k =>
        rw [List.getElem?_cons_succ, ih (i + 1) _ k (by simpa using hk) (by rw [ha, cut_succ])]
        simp [show i + 1 + k = i + (k + 1) by omega]
  have h := H l 0 0 k hk (by simp [cutA])
  rw [Nat.zero_add] at h
  rw [List.take_succ, h]
  rfl
theorem cut_le {n k i : Nat} (hk : 0 < k) (hi : i ≤ k) : cutA (n / k) (n % k) i ≤ n := by
  have h1 : cutA (n / k) (n % k) k = n := by
    unfold cutA
    have h := Nat.mod_lt n hk
    rw [Nat.min_eq_right (by omega)]
    exact Nat.div_add_mod n k
  have h2 : ∀ d i, cutA (n / k) (n % k) i ≤ cutA (n / k) (n % k) (i + d) := by
    intro d
    induction d with
    | zero => intro i; exact Nat.le_refl _
    | succ d ih =>
      intro i
      have h := ih i
      rw [show i + (d + 1) = (i + d) + 1 by omega, cut_succ]
      rw [Nat.add_assoc]
      exact Nat.le_trans h (Nat.le_add_right _ _)
  have := h2 (k - i) i
  rw [show i + (k - i) = k by omega, h1] at this
  exact this
end Sma
end Go.Proofs.Ytdcggnfplfgcnaa
