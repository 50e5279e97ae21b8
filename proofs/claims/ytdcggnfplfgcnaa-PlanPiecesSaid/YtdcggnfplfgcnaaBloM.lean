/- Layer 8: the mathematics of ops of blocks: what they do, what is told of them, and what is told shortly. Nothing of the program is named here. -/
import Derived.Test.YtdcggnfplfgcnaaTurn
set_option linter.all false
namespace Go.Proofs.Ytdcggnfplfgcnaa
open Go.RowKit

/-- An op. -/
structure BOp where
  kind : Int
  off : Int
  len : Int
  data : List Nat
deriving DecidableEq
/-- How many blocks an op is about. -/
def BOp.cnt (o : BOp) : Int := if o.kind = 1 then (o.data.length : Int) else if o.kind = 2 then o.len else 0
def inB (n off k : Int) : Bool := decide (0 ≤ off) && decide (off ≤ n) && decide (k ≤ n - off)
def manyB (n : Int) : Bool := decide (0 ≤ n) && decide (n ≤ 1024)
/-- Is it an op of a volume of n blocks? -/
def BOp.right (n : Int) (o : BOp) : Bool :=
  if o.kind = 1 then manyB n && decide (o.len = 0) && decide (1 ≤ o.data.length) && decide (o.data.length ≤ 64) && inB n o.off o.data.length
  else if o.kind = 2 then manyB n && decide (o.data = []) && decide (1 ≤ o.len) && inB n o.off o.len
  else false
/-- An op that is one of some volume, told by what it is about. -/
structure BOp.Ok (o : BOp) (n : Int) : Prop where
  low : 0 ≤ o.off
  high : o.off + o.cnt ≤ n
  some : 1 ≤ o.cnt
  form : (o.kind = 1 ∧ o.len = 0 ∧ o.data.length ≤ 64) ∨ (o.kind = 2 ∧ o.data = [])
theorem ok_of_right {n : Int} {o : BOp} (h : o.right n = true) : o.Ok n ∧ 0 ≤ n ∧ n ≤ 1024 := by
  unfold BOp.right at h
  by_cases h1 : o.kind = 1
  · rw [if_pos h1] at h
    simp only [Bool.and_eq_true, decide_eq_true_eq, inB, manyB] at h
    have hc : o.cnt = (o.data.length : Int) := by unfold BOp.cnt; rw [if_pos h1]
    exact ⟨⟨by omega, by omega, by omega, .inl ⟨h1, by omega, by omega⟩⟩, by omega, by omega⟩
  · rw [if_neg h1] at h
    by_cases h2 : o.kind = 2
    · rw [if_pos h2] at h
      simp only [Bool.and_eq_true, decide_eq_true_eq, inB, manyB] at h
      have hc : o.cnt = o.len := by unfold BOp.cnt; rw [if_neg h1, if_pos h2]
      exact ⟨⟨by omega, by omega, by omega, .inr ⟨h2, h.1.1.2⟩⟩, by omega, by omega⟩
    · rw [if_neg h2] at h; cases h
theorem right_of_ok {n : Int} {o : BOp} (h : o.Ok n) (h0 : 0 ≤ n) (h1 : n ≤ 1024) : o.right n = true := by
  have a := h.low
  have b := h.high
  have c := h.some
  unfold BOp.right
  rcases h.form with ⟨k1, k2, k3⟩ | ⟨k1, k2⟩
  · have hc : o.cnt = (o.data.length : Int) := by unfold BOp.cnt; rw [if_pos k1]
    rw [if_pos k1]
    simp only [Bool.and_eq_true, decide_eq_true_eq, inB, manyB]
    exact ⟨⟨⟨⟨by omega, k2⟩, by omega⟩, k3⟩, by omega⟩
  · have hk : ¬ o.kind = 1 := by omega
    have hc : o.cnt = o.len := by unfold BOp.cnt; rw [if_neg hk, if_pos k1]
    rw [if_neg hk, if_pos k1]
    simp only [Bool.and_eq_true, decide_eq_true_eq, inB, manyB]
    exact ⟨⟨⟨by omega, k2⟩, by omega⟩, by omega⟩
theorem BOp.Ok.wide {o : BOp} {n m : Int} (h : o.Ok n) (hm : n ≤ m) : o.Ok m := ⟨h.low, by have := h.high; omega, h.some, h.form⟩

/-! ### what ops do, block by block -/
def BOp.at_ (o : BOp) (i : Int) : Bool := decide (o.off ≤ i) && decide (i < o.off + o.cnt)
/-- What a block becomes. -/
def BOp.val (o : BOp) (i : Int) : Nat := if o.kind = 1 then o.data.getD (i - o.off).toNat 0 else 0
theorem BOp.at_iff {o : BOp} {i : Int} : o.at_ i = true ↔ o.off ≤ i ∧ i < o.off + o.cnt := by simp [BOp.at_]
/-- A volume behind an op, as a function. -/
def doF (f : Int → Nat) (o : BOp) : Int → Nat := fun i => if o.at_ i then o.val i else f i
/-- What is told of a block by some ops: what it becomes last. -/
def toldIn (t : Option Nat) (ops : List BOp) (i : Int) : Option Nat := ops.foldl (fun t o => if o.at_ i then some (o.val i) else t) t
def told (ops : List BOp) (i : Int) : Option Nat := toldIn none ops i
theorem told_nil (i : Int) : told [] i = none := rfl
theorem toldIn_or : ∀ (ops : List BOp) (t : Option Nat) (i : Int), toldIn t ops i = match told ops i with | some x => some x | none => t
  | [], _, _ => rfl
  | o :: ops, t, i => by
    unfold told
    unfold toldIn
    rw [List.foldl_cons, List.foldl_cons]
    have h1 := toldIn_or ops (if o.at_ i then some (o.val i) else t) i
    have h2 := toldIn_or ops (if o.at_ i then some (o.val i) else none) i
    unfold toldIn at h1 h2
    rw [h1, h2]
    by_cases e : o.at_ i = true
    · simp only [if_pos e]
      cases told ops i <;> rfl
    · simp only [if_neg e]
      cases told ops i <;> rfl
theorem told_snoc (ops : List BOp) (o : BOp) (i : Int) : told (ops ++ [o]) i = if o.at_ i then some (o.val i) else told ops i := by
  simp [told, toldIn]
theorem told_app (l l' : List BOp) (i : Int) : told (l ++ l') i = match told l' i with | some x => some x | none => told l i := by
  have := toldIn_or l' (told l i) i
  rw [← this]
  simp [told, toldIn]
/-- All ops do what is told of them. -/
theorem do_told : ∀ (ops : List BOp) (f : Int → Nat) (i : Int), ops.foldl doF f i = (told ops i).getD (f i)
  | [], _, _ => rfl
  | o :: ops, f, i => by
    rw [List.foldl_cons, do_told ops (doF f o) i]
    have := told_app [o] ops i
    rw [List.singleton_append] at this
    rw [this]
    cases h : told ops i with
    | some x => rfl
    | none =>
      simp only [Option.getD_none]
      have h1 : told [o] i = if o.at_ i then some (o.val i) else none := told_snoc [] o i
      rw [h1]
      unfold doF
      split <;> rfl
/-- Ops done twice are as done once. -/
theorem do_twice (ops : List BOp) (f : Int → Nat) : ops.foldl doF (ops.foldl doF f) = ops.foldl doF f := by
  funext i
  rw [do_told, do_told]
  cases told ops i <;> rfl
/-- Are both about one block? -/
def meetB (a b : BOp) : Bool := decide (0 < a.cnt) && decide (0 < b.cnt) && decide (a.off < b.off + b.cnt) && decide (b.off < a.off + a.cnt)
theorem meet_no {a b : BOp} (h : meetB a b = false) (i : Int) : ¬ (a.at_ i = true ∧ b.at_ i = true) := by
  rintro ⟨h1, h2⟩
  have h1 := BOp.at_iff.1 h1
  have h2 := BOp.at_iff.1 h2
  simp only [meetB, Bool.and_eq_false_iff, decide_eq_false_iff_not] at h
  omega
/-- Ops that do not meet may be done in either order. -/
theorem do_either {a b : BOp} (h : meetB a b = false) (f : Int → Nat) : doF (doF f a) b = doF (doF f b) a := by
  funext i
  have := meet_no h i
  unfold doF
  by_cases h1 : a.at_ i = true
  · by_cases h2 : b.at_ i = true
    · exact absurd ⟨h1, h2⟩ this
    · simp [h1, h2]
  · by_cases h2 : b.at_ i = true <;> simp [h1, h2]

/-! ### told shortly -/
/-- One block more: what has come of the one ahead is prev. -/
def stepS (out : List BOp) (prev : Option Nat) (k : Nat) : Option Nat → List BOp
  | none => out
  | some 0 => match out.getLast? with
    | some y => if prev = some 0 then out.dropLast ++ [{ y with len := y.len + 1 }] else out ++ [⟨2, k, 1, []⟩]
    | none => out ++ [⟨2, k, 1, []⟩]
  | some (x + 1) => match out.getLast? with
    | some y => if (prev.isSome && prev != some 0) = true ∧ y.data.length < 64 then out.dropLast ++ [{ y with data := y.data ++ [x + 1] }] else out ++ [⟨1, k, 0, [x + 1]⟩]
    | none => out ++ [⟨1, k, 0, [x + 1]⟩]
/-- What has come of the block ahead. -/
def prevOf (m : Nat → Option Nat) : Nat → Option Nat
  | 0 => none
  | j + 1 => m j
/-- All blocks of m, told shortly. -/
def shortS (m : Nat → Option Nat) : Nat → List BOp
  | 0 => []
  | k + 1 => stepS (shortS m k) (prevOf m k) k (m k)
/-- What has come when k blocks have been looked at. -/
structure SInv (m : Nat → Option Nat) (k : Nat) (out : List BOp) : Prop where
  ok : ∀ o ∈ out, o.Ok k
  told : ∀ i : Nat, told out (i : Int) = if i < k then m i else none
  rise : out.Pairwise fun a b => a.off + a.cnt ≤ b.off
  last : ∀ j x, k = j + 1 → m j = some x → ∃ p y, out = p ++ [y] ∧ y.off + y.cnt = (k : Int) ∧ (if x = 0 then y.kind = 2 else y.kind = 1)
theorem SInv.push {m : Nat → Option Nat} {k : Nat} {out : List BOp} (h : SInv m k out) {o : BOp} {x : Nat} (ho : o.off = (k : Int)) (hc : o.cnt = 1) (hf : (o.kind = 1 ∧ o.len = 0 ∧ o.data.length ≤ 64) ∨ (o.kind = 2 ∧ o.data = [])) (hm : m k = some x) (hv : o.val k = x) (hk : if x = 0 then o.kind = 2 else o.kind = 1) : SInv m (k + 1) (out ++ [o]) := by
  refine ⟨fun a ha => ?_, fun i => ?_, ?_, fun j y hj hy => ?_⟩
  · rcases List.mem_append.1 ha with ha | ha
    · exact (h.ok a ha).wide (by omega)
    · rw [List.mem_singleton.1 ha]
      exact ⟨by omega, by omega, by omega, hf⟩
  · rw [told_snoc, h.told]
    by_cases e : i = k
    · subst e
      rw [if_pos (BOp.at_iff.2 ⟨by omega, by omega⟩), if_pos (by omega), hm, hv]
    · rw [if_neg (fun q => by have := BOp.at_iff.1 q; omega)]
      by_cases e2 : i < k
      · rw [if_pos e2, if_pos (by omega)]
      · rw [if_neg e2, if_neg (by omega)]
  · rw [List.pairwise_append]
    refine ⟨h.rise, by simp, fun a ha b hb => ?_⟩
    rw [List.mem_singleton.1 hb, ho]
    exact (h.ok a ha).high
  · have : j = k := by omega
    subst this
    rw [hm] at hy
    injection hy with hy
    subst hy
    exact ⟨out, o, rfl, by omega, hk⟩
theorem SInv.grow {m : Nat → Option Nat} {k : Nat} {p : List BOp} {y y' : BOp} (h : SInv m k (p ++ [y])) {x : Nat} (hy : y.off + y.cnt = (k : Int)) (ho : y'.off = y.off) (hc : y'.cnt = y.cnt + 1) (hf : (y'.kind = 1 ∧ y'.len = 0 ∧ y'.data.length ≤ 64) ∨ (y'.kind = 2 ∧ y'.data = [])) (hm : m k = some x)
    (hold : ∀ i : Int, y.at_ i = true → y'.val i = y.val i) (hv : y'.val k = x) (hk : if x = 0 then y'.kind = 2 else y'.kind = 1) : SInv m (k + 1) (p ++ [y']) := by
  have hyk := h.ok y (by simp)
  have hlow := hyk.low
  have hsome := hyk.some
  have hr := List.pairwise_append.1 h.rise
  refine ⟨fun a ha => ?_, fun i => ?_, ?_, fun j z hj hz => ?_⟩
  · rcases List.mem_append.1 ha with ha | ha
    · exact (h.ok a (by simp [ha])).wide (by omega)
    · rw [List.mem_singleton.1 ha]
      exact ⟨by omega, by omega, by omega, hf⟩
  · have ht := h.told i
    rw [told_snoc] at ht
    rw [told_snoc]
    by_cases e : i = k
    · subst e
      rw [if_pos (BOp.at_iff.2 ⟨by omega, by omega⟩), if_pos (by omega), hm, hv]
    · by_cases e2 : y.at_ (i : Int) = true
      · have := BOp.at_iff.1 e2
        rw [if_pos (BOp.at_iff.2 ⟨by omega, by omega⟩), if_pos (by omega), hold _ e2]
        rw [if_pos e2, if_pos (by omega)] at ht
        exact ht
      · rw [if_neg e2] at ht
        rw [if_neg (fun q => by
          have q := BOp.at_iff.1 q
          exact e2 (BOp.at_iff.2 ⟨by omega, by omega⟩)), ht]
        by_cases e3 : i < k
        · rw [if_pos e3, if_pos (by omega)]
        · rw [if_neg e3, if_neg (by omega)]
  · rw [List.pairwise_append]
    refine ⟨hr.1, by simp, fun a ha b hb => ?_⟩
    rw [List.mem_singleton.1 hb, ho]
    exact hr.2.2 a ha y (by simp)
  · have : j = k := by omega
    subst this
    rw [hm] at hz
    injection hz with hz
    subst hz
    exact ⟨p, y', rfl, by omega, hk⟩
theorem SInv.skip {m : Nat → Option Nat} {k : Nat} {out : List BOp} (h : SInv m k out) (hm : m k = none) : SInv m (k + 1) out := by
  refine ⟨fun a ha => (h.ok a ha).wide (by omega), fun i => ?_, h.rise, fun j x hj hx => ?_⟩
  · rw [h.told]
    by_cases e : i = k
    · subst e; rw [if_neg (by omega), if_pos (by omega), hm]
    · by_cases e2 : i < k
      · rw [if_pos e2, if_pos (by omega)]
      · rw [if_neg e2, if_neg (by omega)]
  · have : j = k := by omega
    subst this
    rw [hm] at hx
    cases hx
theorem getD_app_old {l : List Nat} {x : Nat} {j : Nat} (h : j < l.length) : (l ++ [x]).getD j 0 = l.getD j 0 := by
  simp [List.getD, List.getElem?_append_left h]
theorem short_inv (m : Nat → Option Nat) : ∀ k : Nat, SInv m k (shortS m k)
  | 0 => ⟨by simp [shortS], fun i => by simp [shortS, told_nil], by simp [shortS], fun j x hj => by omega⟩
  | k + 1 => by
    have h := short_inv m k
    unfold shortS
    cases hm : m k with
    | none => exact h.skip hm
    | some x =>
      have pushT : x = 0 → SInv m (k + 1) (shortS m k ++ [⟨2, k, 1, []⟩]) := fun hx =>
        h.push (x := x) rfl rfl (.inr ⟨rfl, rfl⟩) hm (by subst hx; rfl) (by rw [if_pos hx])
      have pushW : x ≠ 0 → SInv m (k + 1) (shortS m k ++ [⟨1, k, 0, [x]⟩]) := fun hx =>
        h.push (x := x) rfl rfl (.inl ⟨rfl, rfl, by simp⟩) hm (by simp [BOp.val]) (by rw [if_neg hx])
      have hlast : ∀ z : Nat, prevOf m k = some z → ∃ p y, shortS m k = p ++ [y] ∧ y.off + y.cnt = (k : Int) ∧ (if z = 0 then y.kind = 2 else y.kind = 1) := by
        intro z hz
        cases k with
        | zero => cases hz
        | succ j => exact h.last j z rfl hz
      generalize prevOf m k = prev at *
      cases x with
      | zero =>
        have hp := pushT rfl
        unfold stepS
        rcases hg : (shortS m k).getLast? with _ | y
        · exact hp
        · simp only
          by_cases hc : prev = some 0
          · rw [if_pos hc]
            obtain ⟨p, y2, e, e2, e3⟩ := hlast 0 hc
            rw [if_pos rfl] at e3
            rw [e] at hg h ⊢
            simp only [List.getLast?_append, List.getLast?_singleton, Option.some_or, Option.some.injEq] at hg
            subst hg
            rw [List.dropLast_concat]
            have hd : y2.data = [] := by
              rcases (h.ok y2 (by simp)).form with q | q
              · omega
              · exact q.2
            have hcn : y2.cnt = y2.len := by unfold BOp.cnt; rw [if_neg (by omega), if_pos e3]
            exact h.grow (x := 0) e2 rfl (by unfold BOp.cnt; rw [if_neg (by simp only; omega), if_pos e3, if_neg (by omega), if_pos e3]) (.inr ⟨e3, hd⟩) hm (fun i _ => by simp [BOp.val, e3]) (by simp [BOp.val, e3]) (by rw [if_pos rfl]; exact e3)
          · rw [if_neg hc]; exact hp
      | succ x =>
        have hp := pushW (by omega)
        unfold stepS
        rcases hg : (shortS m k).getLast? with _ | y
        · exact hp
        · simp only
          by_cases hc : (prev.isSome && prev != some 0) = true ∧ y.data.length < 64
          · rw [if_pos hc]
            obtain ⟨z, hz⟩ : ∃ z, prev = some z := by
              cases hpv2 : prev with
              | none => rw [hpv2] at hc; simp at hc
              | some z => exact ⟨z, rfl⟩
            have hz0 : z ≠ 0 := by
              intro e; subst e; rw [hz] at hc; simp at hc
            obtain ⟨p, y2, e, e2, e3⟩ := hlast z hz
            rw [if_neg hz0] at e3
            rw [e] at hg h ⊢
            simp only [List.getLast?_append, List.getLast?_singleton, Option.some_or, Option.some.injEq] at hg
            subst hg
            rw [List.dropLast_concat]
            have hok := h.ok y2 (by simp)
            have hln : y2.len = 0 := by
              rcases hok.form with q | q
              · exact q.2.1
              · omega
            have hcn : y2.cnt = (y2.data.length : Int) := by unfold BOp.cnt; rw [if_pos e3]
            have hlow := hok.low
            refine h.grow (x := x + 1) e2 rfl (by unfold BOp.cnt; rw [if_pos e3, if_pos e3]; simp) (.inl ⟨e3, hln, by simp; omega⟩) hm (fun i hi => ?_) ?_ (by rw [if_neg (by omega)]; exact e3)
            · have hi := BOp.at_iff.1 hi
              unfold BOp.val
              rw [if_pos e3, if_pos e3]
              exact getD_app_old (by simp only; omega)
            · unfold BOp.val
              rw [if_pos e3]
              simp only
              rw [show ((k : Int) - y2.off).toNat = y2.data.length by omega]
              simp [List.getD]
          · rw [if_neg hc]; exact hp
/-- Told shortly, blocks are told as they were. -/
theorem short_told (m : Nat → Option Nat) (n : Nat) (i : Nat) : told (shortS m n) (i : Int) = if i < n then m i else none := (short_inv m n).told i
theorem short_ok {m : Nat → Option Nat} {n : Nat} (hn : n ≤ 1024) : ∀ o ∈ shortS m n, o.right n = true := fun o ho => right_of_ok ((short_inv m n).ok o ho) (by omega) (by omega)
theorem short_rise (m : Nat → Option Nat) (n : Nat) : (shortS m n).Pairwise fun a b => a.off + a.cnt ≤ b.off := (short_inv m n).rise
theorem short_congr {m m' : Nat → Option Nat} : ∀ {n : Nat}, (∀ i, i < n → m i = m' i) → shortS m n = shortS m' n
  | 0, _ => rfl
  | n + 1, h => by
    unfold shortS
    rw [short_congr (n := n) fun i hi => h i (by omega), h n (by omega)]
    cases n with
    | zero => rfl
    | succ j =>
      have e : prevOf m (j + 1) = prevOf m' (j + 1) := h j (by omega)
      rw [e]
/-- Told shortly twice they are the same. -/
theorem short_twice (m : Nat → Option Nat) (n : Nat) : shortS (fun i => told (shortS m n) (i : Int)) n = shortS m n :=
  short_congr fun i hi => by rw [short_told, if_pos hi]
/-- Nothing is told where nothing was touched, and only there. -/
theorem short_nil (m : Nat → Option Nat) (n : Nat) : shortS m n = [] ↔ ∀ i, i < n → m i = none := by
  constructor
  · intro h i hi
    have := short_told m n i
    rw [h, told_nil, if_pos hi] at this
    exact this.symm
  · intro h
    cases hs : shortS m n with
    | nil => rfl
    | cons o l =>
      have hok := (short_inv m n).ok o (by rw [hs]; simp)
      have hr := (short_inv m n).rise
      rw [hs, List.pairwise_cons] at hr
      have h1 := hok.low
      have h2 := hok.some
      have h3 := hok.high
      obtain ⟨i, hi⟩ := Int.eq_ofNat_of_zero_le h1
      have ht := short_told m n i
      rw [if_pos (by omega), h i (by omega), hs] at ht
      have : told (o :: l) (i : Int) = _ := told_app [o] l (i : Int)
      rw [this] at ht
      cases hl : told l (i : Int) with
      | some x => rw [hl] at ht; cases ht
      | none =>
        rw [hl] at ht
        have h4 : told [o] (i : Int) = if o.at_ i then some (o.val i) else none := told_snoc [] o i
        rw [if_pos (BOp.at_iff.2 ⟨by omega, by omega⟩)] at h4
        simp only at ht
        rw [h4] at ht
        cases ht
/-- From where on an op is. -/
def BOp.from_ (o : BOp) : Int := if o.kind = 1 then o.off else if o.kind = 2 then o.off else 0
theorem from_ok {o : BOp} {n : Int} (h : o.Ok n) : o.from_ = o.off := by
  unfold BOp.from_
  rcases h.form with q | q
  · rw [if_pos q.1]
  · rw [if_neg (by omega), if_pos q.1]
end Go.Proofs.Ytdcggnfplfgcnaa
