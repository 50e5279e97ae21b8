/- The mathematics of layer 4: heads, notes, and what a log's disk holds. Nothing of the program is named here. -/
import Derived.Test.YtlpbdnncbinbmaaSumM
import Derived.Test.YtlpbdnncbinbmaaPackN
import Derived.Test.YtlpbdnncbinbmaaDiskM
namespace Go.Proofs.Ytlpbdnncbinbmaa

/-! ### several writes, and a flush -/
def wrs : List (Nat × List UInt8) → DS → Nat × DS
  | [], s => (0, s)
  | (i, x) :: l, s => if (s.write i x).1 = 0 then wrs l (s.write i x).2 else s.write i x
def wrsF (l : List (Nat × List UInt8)) (s : DS) : Nat × DS := if (wrs l s).1 = 0 then (wrs l s).2.flush else wrs l s
theorem wrs_snoc (l : List (Nat × List UInt8)) (i : Nat) (x : List UInt8) : ∀ s, wrs (l ++ [(i, x)]) s = if (wrs l s).1 = 0 then (wrs l s).2.write i x else wrs l s := by
  induction l with
  | nil => intro s; simp only [List.nil_append, wrs, if_true]; split <;> rename_i h; exact Prod.ext h.symm rfl; rfl
  | cons p l ih =>
    intro s
    simp only [List.cons_append, wrs]
    split
    · exact ih _
    · rfl
theorem wrs_stop (l l' : List (Nat × List UInt8)) : ∀ s, (wrs l s).1 ≠ 0 → wrs (l ++ l') s = wrs l s := by
  induction l with
  | nil => intro s h; exact absurd rfl h
  | cons p l ih =>
    intro s h
    simp only [List.cons_append, wrs] at *
    split
    · rename_i h0; rw [if_pos h0] at h; exact ih _ h
    · rfl
def updL : List (Nat × List UInt8) → (Nat → List UInt8) → Nat → List UInt8
  | [], f => f
  | (i, x) :: l, f => updL l fun j => if j = i then pad x else f j
theorem updL_out {l : List (Nat × List UInt8)} {j : Nat} : ∀ {f : Nat → List UInt8}, (∀ p ∈ l, p.1 ≠ j) → updL l f j = f j := by
  induction l with
  | nil => intro f _; rfl
  | cons p l ih =>
    intro f h
    simp only [updL]
    rw [ih fun q hq => h q (List.mem_cons_of_mem _ hq), if_neg fun e => h p (List.mem_cons_self ..) e.symm]
theorem updL_in {l : List (Nat × List UInt8)} {j : Nat} {x : List UInt8} : ∀ {f : Nat → List UInt8}, (∀ p ∈ l, p.1 = j → p.2 = x) → (f j = pad x ∨ ∃ p ∈ l, p.1 = j) → updL l f j = pad x := by
  induction l with
  | nil => intro f _ h; rcases h with h | ⟨p, hp, _⟩; exact h; simp at hp
  | cons p l ih =>
    intro f h1 h2
    simp only [updL]
    apply ih fun q hq => h1 q (List.mem_cons_of_mem _ hq)
    by_cases e : j = p.1
    · left; rw [if_pos e, h1 p (List.mem_cons_self ..) e.symm]
    · rw [if_neg e]
      rcases h2 with h2 | ⟨q, hq, he⟩
      · exact .inl h2
      · rcases List.mem_cons.1 hq with rfl | hq
        · exact absurd he.symm e
        · exact .inr ⟨q, hq, he⟩

theorem step_fuse (s : DS) (h : s.fuse < 0) : s.step = s := by
  unfold DS.step
  rw [if_neg (by omega), if_neg (by omega)]
theorem step_off (s : DS) (ho : s.on = true) (h : s.step.on = false) : 0 ≤ s.fuse := by
  by_cases hf : s.fuse < 0
  · rw [step_fuse s hf, ho] at h; cases h
  · omega
theorem write_ok_eq (s : DS) (i : Nat) (x : List UInt8) (hi : i < s.n) (hx : x.length ≤ 64) :
    s.write i x = if s.step.on = true then (0, { s.step with cache := put s.cache i (some (pad x)) }) else (8, s.step) := by
  unfold DS.write
  rw [if_neg]
  · rfl
  · simp only [DS.has]; omega

/-- What several writes come to. -/
structure Wrote (l : List (Nat × List UInt8)) (s : DS) (r : Nat × DS) (C : Nat → List UInt8 → Prop) : Prop where
  end_ : r.1 = 0 ∧ r.2.on = true ∨ r.1 = 8 ∧ 0 ≤ s.fuse ∧ r.2.on = false
  n : r.2.n = s.n
  plate : r.2.plate = s.plate
  fuse : s.fuse < 0 → r.2.fuse = s.fuse
  cache : ∀ j y, r.2.cache j = some y → C j y
  look : r.1 = 0 → ∀ j, r.2.look j = updL l s.look j
theorem wrs_spec (C : Nat → List UInt8 → Prop) (l : List (Nat × List UInt8)) : ∀ s : DS, s.on = true → (∀ p ∈ l, p.1 < s.n ∧ p.2.length ≤ 64) → (∀ j y, s.cache j = some y → C j y) → (∀ p ∈ l, C p.1 (pad p.2)) → Wrote l s (wrs l s) C := by
  induction l with
  | nil => intro s ho _ hc _; exact ⟨.inl ⟨rfl, ho⟩, rfl, rfl, fun _ => rfl, hc, fun _ _ => rfl⟩
  | cons p l ih =>
    intro s ho hl hc hC
    obtain ⟨i, x⟩ := p
    obtain ⟨hi, hx⟩ := hl _ (List.mem_cons_self ..)
    simp only [wrs]
    rw [write_ok_eq s i x hi hx]
    cases h : s.step.on with
    | false =>
      simp only [Bool.false_eq_true, if_false]
      rw [if_neg (by decide)]
      refine ⟨.inr ⟨rfl, step_off s ho h, h⟩, step_n s, step_plate s, fun hf => by simp only; rw [step_fuse s hf], fun j y hy => hc j y (by simpa [step_cache] using hy), fun h => by cases h⟩
    | true =>
      simp only [if_true]
      have h1 := ih { s.step with cache := put s.cache i (some (pad x)) } h (fun q hq => by simp only [step_n]; exact hl q (List.mem_cons_of_mem _ hq)) (fun j y hy => by
        simp only [put] at hy
        split at hy
        · rename_i e; subst e; cases hy; exact hC _ (List.mem_cons_self ..)
        · exact hc j y hy) (fun q hq => hC q (List.mem_cons_of_mem _ hq))
      refine ⟨?_, by rw [h1.n]; exact step_n s, by rw [h1.plate]; exact step_plate s, fun hf => ?_, h1.cache, fun h0 j => ?_⟩
      · rcases h1.end_ with h2 | ⟨h2, h3, h4⟩
        · exact .inl h2
        · refine .inr ⟨h2, ?_, h4⟩
          by_cases hf : s.fuse < 0
          · simp only [step_fuse s hf] at h3; exact h3
          · omega
      · rw [h1.fuse (by simp only [step_fuse s hf]; exact hf)]; simp only [step_fuse s hf]
      · rw [h1.look h0 j]
        simp only [updL]
        congr 1
        funext q
        simp only [DS.look, put, step_plate]
        split <;> simp

/-- The power is on, and nothing is in the cache. -/
structure Up (s : DS) : Prop where
  on : s.on = true
  cache : ∀ j, s.cache j = none
theorem Up.look {s : DS} (h : Up s) (j : Nat) : s.look j = s.plate j := by simp [DS.look, h.cache]
theorem Up.woken {s : DS} (h : Up s) (keep : List Bool) : s.woken keep = s.plate := by funext j; simp [DS.woken, h.cache]
/-- The same disk, and a fuse that was not set is not. -/
structure Fz (s s' : DS) : Prop where
  n : s'.n = s.n
  fuse : s.fuse < 0 → s'.fuse = s.fuse
theorem Fz.refl (s : DS) : Fz s s := ⟨rfl, fun _ => rfl⟩
theorem Fz.trans {a b c : DS} (h : Fz a b) (k : Fz b c) : Fz a c := ⟨k.n.trans h.n, fun hf => (k.fuse (by rw [h.fuse hf]; exact hf)).trans (h.fuse hf)⟩
theorem Fz.neg {a b : DS} (h : Fz a b) (hb : 0 ≤ b.fuse) : 0 ≤ a.fuse := by
  by_cases hf : a.fuse < 0
  · rw [h.fuse hf] at hb; exact hb
  · omega
/-- What a call on a disk that was up comes to: either it is done, and the disk is up; or the power went off, and whatever is kept, the sectors are as Q says. -/
inductive Ran (s : DS) (r : Nat × DS) (A Q : (Nat → List UInt8) → Prop) : Prop
  | done (e : r.1 = 0) (up : Up r.2) (a : A r.2.plate) (fz : Fz s r.2)
  | down (e : r.1 = 8) (fuse : 0 ≤ s.fuse) (off : r.2.on = false) (q : ∀ keep, Q (r.2.woken keep)) (fz : Fz s r.2)

theorem wrsF_spec {l : List (Nat × List UInt8)} {s : DS} (hu : Up s) (hl : ∀ p ∈ l, p.1 < s.n ∧ p.2.length ≤ 64) {A Q : (Nat → List UInt8) → Prop}
    (hA : A (updL l s.plate)) (hQ : ∀ D, (∀ j, D j = s.plate j ∨ ∃ p ∈ l, p.1 = j ∧ D j = pad p.2) → Q D) : Ran s (wrsF l s) A Q := by
  have h := wrs_spec (fun j y => ∃ p ∈ l, p.1 = j ∧ y = pad p.2) l s hu.on hl (fun j y hy => by rw [hu.cache] at hy; cases hy) (fun p hp => ⟨p, hp, rfl, rfl⟩)
  have hw : ∀ r : DS, r.plate = s.plate → (∀ j y, r.cache j = some y → ∃ p ∈ l, p.1 = j ∧ y = pad p.2) → ∀ keep, Q (r.woken keep) := by
    intro r hp hc keep
    apply hQ
    intro j
    unfold DS.woken
    rw [hp]
    cases hj : r.cache j with
    | none => exact .inl rfl
    | some x =>
      simp only
      split
      · exact .inr (hc j x hj)
      · exact .inl rfl
  unfold wrsF
  rcases h.end_ with ⟨h0, hon⟩ | ⟨h8, hf, hoff⟩
  · rw [if_pos h0]
    unfold DS.flush
    have hfz : Fz s (wrs l s).2 := ⟨h.n, h.fuse⟩
    have hfz2 : Fz s (wrs l s).2.step := ⟨(step_n _).trans h.n, fun hf => by rw [step_fuse _ (by rw [h.fuse hf]; exact hf)]; exact h.fuse hf⟩
    cases ho : (wrs l s).2.step.on with
    | true =>
      rw [if_pos rfl]
      refine .done rfl ⟨ho, fun _ => rfl⟩ ?_ ⟨hfz2.n, hfz2.fuse⟩
      have : (wrs l s).2.look = updL l s.plate := by
        funext j
        rw [h.look h0 j]
        congr 1
        funext q
        exact hu.look q
      simp only [this]
      exact hA
    | false =>
      rw [if_neg (by simp)]
      exact .down rfl (hfz.neg (step_off _ hon ho)) ho (hw _ (by rw [step_plate]; exact h.plate) (by rw [step_cache]; exact h.cache)) hfz2
  · rw [if_neg (by omega)]
    exact .down h8 hf hoff (hw _ h.plate h.cache) ⟨h.n, h.fuse⟩

/-! ### sealed sectors -/
def sealL (xs : List UInt8) : List UInt8 := xs ++ sumBytes (adOf [xs])
def fill60 (xs : List UInt8) : List UInt8 := xs ++ List.replicate (60 - xs.length) 0
def secOf (b : List UInt8) : List UInt8 := sealL (fill60 b)
theorem fill60_length {b : List UInt8} (h : b.length ≤ 60) : (fill60 b).length = 60 := by simp [fill60]; omega
theorem sealL_length (b : List UInt8) : (sealL b).length = b.length + 4 := by simp [sealL, sumBytes]
theorem secOf_length {b : List UInt8} (h : b.length ≤ 60) : (secOf b).length = 64 := by rw [secOf, sealL_length, fill60_length h]
theorem pad_sec {x : List UInt8} (h : x.length = 64) : pad x = x := by simp [pad, h]
theorem okSum_sealL (xs : List UInt8) : okSum (sealL xs) = true := by
  rw [okSum_at _ xs.length (by simp [sealL, sumBytes])]
  simp [sealL, List.drop_left, List.take_left]
theorem openL_sealL (xs : List UInt8) : openL (sealL xs) = xs := by
  unfold openL
  rw [okSum_sealL, if_pos rfl]
  simp [sealL, sumBytes]
theorem openE_sealL (xs : List UInt8) : openE (sealL xs) = 0 := by unfold openE; rw [okSum_sealL, if_pos rfl]
theorem openL_sec (b : List UInt8) : openL (secOf b) = fill60 b := openL_sealL _
theorem openE_sec (b : List UInt8) : openE (secOf b) = 0 := openE_sealL _

/-! ### heads -/
def mark : Nat := 8746399990351620727
def topN : Nat := 4611686018427387904
def headB (t n k : Nat) : List UInt8 := numsBytes [mark, t, n, k]
theorem headB_length (t n k : Nat) : (headB t n k).length = 32 := by simp [headB, numsBytes_length]
def parseL (b : List UInt8) : Nat × Nat × Nat :=
  if (rGet b ⟨0, 0, 0⟩).1 ≠ mark then (0, 0, 0) else
  if (rInt b 7 (rInt b topN (rInt b topN (rGet b ⟨0, 0, 0⟩).2).2).2).2.e = 0 ∧ (rInt b 7 (rInt b topN (rInt b topN (rGet b ⟨0, 0, 0⟩).2).2).2).2.f = 0 then
    ((rInt b topN (rGet b ⟨0, 0, 0⟩).2).1, (rInt b topN (rInt b topN (rGet b ⟨0, 0, 0⟩).2).2).1, (rInt b 7 (rInt b topN (rInt b topN (rGet b ⟨0, 0, 0⟩).2).2).2).1)
  else (0, 0, 0)
def hdOf (x : List UInt8) : Nat × Nat × Nat := parseL (openL x)
theorem rInt_nums (a : List Nat) (ys : List UInt8) (k : Nat) (m : Int) (hk : k < a.length) (hz : a[k] < 18446744073709551616) (hm : (a[k] : Int) ≤ m) : rInt (numsBytes a ++ ys) m ⟨8 * k, 0, 0⟩ = (a[k], ⟨8 * (k + 1), 0, 0⟩) := by
  have h1 := nums_drop a ys k hk
  have h2 := congrArg List.length h1
  rw [List.length_drop, List.length_append, List.length_append, numBytes_length] at h2
  have h3 : ¬ (numsBytes a ++ ys).length < 8 * k + 8 := by rw [List.length_append]; omega
  unfold rInt
  simp only [ne_eq, not_true_eq_false, if_false, h3, h1]
  rw [numAt_numBytes _ hz, if_neg (by omega), show 8 * (k + 1) = 8 * k + 8 by omega]
theorem parse_head (t n k : Nat) (ht : t ≤ topN) (hn : n ≤ topN) (hk : k ≤ 7) (ys : List UInt8) : parseL (headB t n k ++ ys) = (t, n, k) := by
  have ht' : t ≤ 4611686018427387904 := ht
  have hn' : n ≤ 4611686018427387904 := hn
  have e0 : rGet (headB t n k ++ ys) ⟨0, 0, 0⟩ = (mark, ⟨8, 0, 0⟩) := rGet_nums [mark, t, n, k] ys 0 (by simp) (by simp [mark])
  have e1 : rInt (headB t n k ++ ys) topN ⟨8, 0, 0⟩ = (t, ⟨16, 0, 0⟩) := rInt_nums [mark, t, n, k] ys 1 topN (by simp) (by simp; omega) (by simp only [topN, List.getElem_cons_succ, List.getElem_cons_zero]; omega)
  have e2 : rInt (headB t n k ++ ys) topN ⟨16, 0, 0⟩ = (n, ⟨24, 0, 0⟩) := rInt_nums [mark, t, n, k] ys 2 topN (by simp) (by simp; omega) (by simp only [topN, List.getElem_cons_succ, List.getElem_cons_zero]; omega)
  have e3 : rInt (headB t n k ++ ys) 7 ⟨24, 0, 0⟩ = (k, ⟨32, 0, 0⟩) := rInt_nums [mark, t, n, k] ys 3 7 (by simp) (by simp; omega) (by simp; omega)
  unfold parseL
  rw [e0, if_neg (by simp)]
  simp only [e1, e2, e3, and_self, if_true]
theorem hdOf_head {t n k : Nat} (ht : t ≤ topN) (hn : n ≤ topN) (hk : k ≤ 7) : hdOf (secOf (headB t n k)) = (t, n, k) := by
  unfold hdOf
  rw [openL_sec, fill60]
  exact parse_head t n k ht hn hk _
set_option maxRecDepth 100000 in
theorem hdOf_zeros : hdOf zeros = (0, 0, 0) := by decide +kernel
/-- The newer of two heads. -/
def newer (a b : Nat × Nat × Nat) : Nat × Nat × Nat := if a.1 < b.1 then b else a
def lastTwo (D : Nat → List UInt8) : Nat × Nat × Nat := newer (newer (0, 0, 0) (hdOf (D 0))) (hdOf (D 1))

/-! ### what a log's disk holds -/
def row0 : List UInt8 := List.replicate 48 0
theorem pad_row0 : pad row0 = zeros := by decide
def noteB (a : Nat) (x : List UInt8) : List UInt8 := numBytes a ++ x
theorem noteB_length {a : Nat} {x : List UInt8} (h : x.length = 48) : (noteB a x).length = 56 := by simp [noteB, numBytes_length, h]
structure Hd (D : Nat → List UInt8) (t n k : Nat) : Prop where
  here : D (t % 2) = secOf (headB t n k)
  other : (hdOf (D ((t + 1) % 2))).1 < t
  one : 1 ≤ t
  kle : k ≤ 7
structure Dat (D : Nat → List UInt8) (N : Nat) (P : Nat → List UInt8) (k : Nat) : Prop where
  len : ∀ i, i < N - 9 → (P i).length = 48
  set : k = 0 → ∀ i, i < N - 9 → D (9 + i) = pad (P i)
  wipe : k = 7 → ∀ i, i < N - 9 → P i = row0
  todo : 1 ≤ k → k ≤ 6 → ∃ at_ : Nat → Nat, (∀ j, j < k → at_ j < N - 9 ∧ D (2 + j) = secOf (noteB (at_ j) (P (at_ j)))) ∧ ∀ i, i < N - 9 → (∀ j, j < k → at_ j ≠ i) → D (9 + i) = pad (P i)
/-- A log of number n and places P is on the sectors D. -/
def Jn (D : Nat → List UInt8) (N t n : Nat) (P : Nat → List UInt8) : Prop := ∃ k, Hd D t n k ∧ Dat D N P k
theorem Hd.last {D : Nat → List UInt8} {t n k : Nat} (h : Hd D t n k) (ht : t ≤ topN) (hn : n ≤ topN) : lastTwo D = (t, n, k) := by
  have h1 := h.here
  have h2 := h.other
  have h3 := h.one
  have h4 := hdOf_head ht hn h.kle
  have key : ∀ a b : Nat × Nat × Nat, a.1 < t → b = (t, n, k) → newer (newer (0, 0, 0) a) b = (t, n, k) ∧ newer (newer (0, 0, 0) b) a = (t, n, k) := by
    intro a b ha hb
    subst hb
    obtain ⟨a1, a2⟩ := a
    simp only at ha
    constructor
    · by_cases h0 : 0 < a1
      · simp [newer, h0, ha]
      · have : 0 < t := by omega
        simp [newer, h0, this]
    · have h0 : 0 < t := by omega
      have h1 : ¬ t < a1 := by omega
      simp [newer, h0, h1]
  unfold lastTwo
  rcases Nat.mod_two_eq_zero_or_one t with e | e
  · rw [show (t + 1) % 2 = 1 by omega] at h2
    rw [e] at h1
    exact (key _ _ h2 (by rw [h1, h4])).2
  · rw [show (t + 1) % 2 = 0 by omega] at h2
    rw [e] at h1
    exact (key _ _ h2 (by rw [h1, h4])).1
theorem Hd.next {D D' : Nat → List UInt8} {t n k n' k' : Nat} (h : Hd D t n k) (ht : t ≤ topN) (hn : n ≤ topN) (hk : k' ≤ 7) (h1 : D' ((t + 1) % 2) = secOf (headB (t + 1) n' k')) (h2 : D' (t % 2) = D (t % 2)) : Hd D' (t + 1) n' k' :=
  ⟨h1, by rw [show (t + 1 + 1) % 2 = t % 2 by omega, h2, h.here, hdOf_head ht hn h.kle]; exact Nat.lt_succ_self t, by omega, hk⟩
theorem Hd.congr {D D' : Nat → List UInt8} {t n k : Nat} (h : Hd D t n k) (he : ∀ j, j < 2 → D' j = D j) : Hd D' t n k :=
  ⟨by rw [he _ (by omega)]; exact h.here, by rw [he _ (by omega)]; exact h.other, h.one, h.kle⟩
theorem Dat.congr {D D' : Nat → List UInt8} {N : Nat} {P : Nat → List UInt8} {k : Nat} (h : Dat D N P k) (he : ∀ j, 2 ≤ j → D' j = D j) : Dat D' N P k :=
  ⟨h.len, fun hk i hi => by rw [he _ (by omega)]; exact h.set hk i hi, h.wipe, fun h1 h2 => by
    obtain ⟨a, ha, hb⟩ := h.todo h1 h2
    exact ⟨a, fun j hj => ⟨(ha j hj).1, by rw [he _ (by omega)]; exact (ha j hj).2⟩, fun i hi hn => by rw [he _ (by omega)]; exact hb i hi hn⟩⟩

/-- A head is written. -/
theorem headW {s : DS} (hu : Up s) {t n k n' k' : Nat} {P P' : Nat → List UInt8} (hN : 10 ≤ s.n) (h : Hd s.plate t n k) (hd : Dat s.plate s.n P k) (hd' : Dat s.plate s.n P' k') (ht : t ≤ topN) (hn : n ≤ topN) (hk : k' ≤ 7) :
    Ran s (wrsF [((t + 1) % 2, secOf (headB (t + 1) n' k'))] s) (fun D => Hd D (t + 1) n' k' ∧ Dat D s.n P' k') (fun D => Jn D s.n t n P ∨ Jn D s.n (t + 1) n' P') := by
  have hl : (secOf (headB (t + 1) n' k')).length = 64 := secOf_length (by rw [headB_length]; omega)
  have key : ∀ D : Nat → List UInt8, (∀ j, j ≠ (t + 1) % 2 → D j = s.plate j) → D ((t + 1) % 2) = secOf (headB (t + 1) n' k') → Hd D (t + 1) n' k' ∧ Dat D s.n P' k' := fun D h1 h2 =>
    ⟨h.next ht hn hk h2 (h1 _ (by omega)), hd'.congr fun j hj => h1 j (by omega)⟩
  refine wrsF_spec hu (fun p hp => ?_) ?_ (fun D hD => ?_)
  · rw [List.mem_singleton] at hp; subst hp; exact ⟨by simp only; omega, by simp only; omega⟩
  · refine key _ (fun j hj => ?_) ?_
    · simp only [updL]; rw [if_neg hj]
    · simp only [updL, if_true]; exact pad_sec hl
  · by_cases e : D ((t + 1) % 2) = s.plate ((t + 1) % 2)
    · have : ∀ j, D j = s.plate j := fun j => by
        by_cases hj : j = (t + 1) % 2
        · rw [hj]; exact e
        · rcases hD j with h | ⟨p, hp, h1, _⟩
          · exact h
          · rw [List.mem_singleton] at hp; subst hp; exact absurd h1.symm hj
      exact .inl ⟨k, h.congr fun j _ => this j, hd.congr fun j _ => this j⟩
    · refine .inr ⟨k', key D (fun j hj => ?_) ?_⟩
      · rcases hD j with h | ⟨p, hp, h1, _⟩
        · exact h
        · rw [List.mem_singleton] at hp; subst hp; exact absurd h1.symm hj
      · rcases hD ((t + 1) % 2) with h | ⟨p, hp, h1, h2⟩
        · exact absurd h e
        · rw [List.mem_singleton] at hp; subst hp; rw [h2]; exact pad_sec hl

def redoL (at_ : Nat → Nat) (P : Nat → List UInt8) (k : Nat) : List (Nat × List UInt8) := (List.range k).map fun j => (9 + at_ j, P (at_ j))
theorem mem_redoL {at_ : Nat → Nat} {P : Nat → List UInt8} {k : Nat} {p : Nat × List UInt8} (h : p ∈ redoL at_ P k) : ∃ j, j < k ∧ p = (9 + at_ j, P (at_ j)) := by
  obtain ⟨j, hj, rfl⟩ := List.mem_map.1 h
  exact ⟨j, List.mem_range.1 hj, rfl⟩
/-- The notes are done. -/
theorem redoW {s : DS} (hu : Up s) {t n k : Nat} {P : Nat → List UInt8} (h : Hd s.plate t n k) (hd : Dat s.plate s.n P k) {at_ : Nat → Nat} (h1 : 1 ≤ k) (h2 : k ≤ 6)
    (ha : ∀ j, j < k → at_ j < s.n - 9 ∧ s.plate (2 + j) = secOf (noteB (at_ j) (P (at_ j)))) (hb : ∀ i, i < s.n - 9 → (∀ j, j < k → at_ j ≠ i) → s.plate (9 + i) = pad (P i)) :
    Ran s (wrsF (redoL at_ P k) s) (fun D => Hd D t n k ∧ Dat D s.n P 0 ∧ Dat D s.n P k) (fun D => Jn D s.n t n P) := by
  have key : ∀ D : Nat → List UInt8, (∀ j, D j = s.plate j ∨ ∃ p ∈ redoL at_ P k, p.1 = j ∧ D j = pad p.2) → Hd D t n k ∧ Dat D s.n P k := fun D hD => by
    have hlow : ∀ j, j < 9 → D j = s.plate j := fun j hj => by
      rcases hD j with h | ⟨p, hp, e, _⟩
      · exact h
      · obtain ⟨q, _, rfl⟩ := mem_redoL hp
        simp only at e; omega
    refine ⟨h.congr fun j hj => hlow j (by omega), hd.len, fun e => by omega, fun e => by omega, fun _ _ => ⟨at_, fun j hj => ⟨(ha j hj).1, by rw [hlow _ (by omega)]; exact (ha j hj).2⟩, fun i hi hn => ?_⟩⟩
    rcases hD (9 + i) with h | ⟨p, hp, e, e2⟩
    · rw [h]; exact hb i hi hn
    · obtain ⟨q, hq, rfl⟩ := mem_redoL hp
      exact absurd (by simp only at e; omega) (hn q hq)
  refine wrsF_spec hu (fun p hp => ?_) ?_ (fun D hD => ⟨k, key D hD⟩)
  · obtain ⟨q, hq, rfl⟩ := mem_redoL hp
    have := (ha q hq).1
    exact ⟨by simp only; omega, by simp only; rw [hd.len _ this]; omega⟩
  · have hin : ∀ i, (∃ j, j < k ∧ at_ j = i) → updL (redoL at_ P k) s.plate (9 + i) = pad (P i) := fun i ⟨j, hj, e⟩ => by
      refine updL_in (fun p hp e2 => ?_) (.inr ⟨(9 + at_ j, P (at_ j)), List.mem_map.2 ⟨j, List.mem_range.2 hj, rfl⟩, by simp only; omega⟩)
      obtain ⟨q, hq, rfl⟩ := mem_redoL hp
      simp only at e2 ⊢
      rw [show at_ q = i by omega]
    have hout : ∀ j, (∀ q, q < k → 9 + at_ q ≠ j) → updL (redoL at_ P k) s.plate j = s.plate j := fun j hj => updL_out fun p hp e => by
      obtain ⟨q, hq, rfl⟩ := mem_redoL hp
      exact hj q hq e
    have hk := key (updL (redoL at_ P k) s.plate) fun j => by
      by_cases e : ∃ q, q < k ∧ 9 + at_ q = j
      · obtain ⟨q, hq, e⟩ := e
        refine .inr ⟨(9 + at_ q, P (at_ q)), List.mem_map.2 ⟨q, List.mem_range.2 hq, rfl⟩, e, ?_⟩
        rw [← e]; exact hin _ ⟨q, hq, rfl⟩
      · exact .inl (hout j fun q hq e2 => e ⟨q, hq, e2⟩)
    refine ⟨hk.1, ⟨hd.len, fun _ i hi => ?_, fun e => (by cases e), fun e => by omega⟩, hk.2⟩
    by_cases e : ∃ j, j < k ∧ at_ j = i
    · exact hin i e
    · rw [hout _ fun q hq e2 => e ⟨q, hq, by omega⟩]
      exact hb i hi fun j hj e2 => e ⟨j, hj, e2⟩

def cleanL (N : Nat) : List (Nat × List UInt8) := (List.range (N - 9)).map fun i => (9 + i, [])
theorem mem_cleanL {N : Nat} {p : Nat × List UInt8} (h : p ∈ cleanL N) : ∃ j, j < N - 9 ∧ p = (9 + j, []) := by
  obtain ⟨j, hj, rfl⟩ := List.mem_map.1 h
  exact ⟨j, List.mem_range.1 hj, rfl⟩
/-- The places are made 0. -/
theorem cleanW {s : DS} (hu : Up s) {t n : Nat} {P : Nat → List UInt8} (h : Hd s.plate t n 7) (hd : Dat s.plate s.n P 7) :
    Ran s (wrsF (cleanL s.n) s) (fun D => Hd D t n 7 ∧ Dat D s.n P 0 ∧ Dat D s.n P 7) (fun D => Jn D s.n t n P) := by
  have key : ∀ D : Nat → List UInt8, (∀ j, j < 9 → D j = s.plate j) → Hd D t n 7 ∧ Dat D s.n P 7 := fun D hD =>
    ⟨h.congr fun j hj => hD j (by omega), hd.len, fun e => (by cases e), fun _ => hd.wipe rfl, fun _ e => by omega⟩
  have hout : ∀ j, j < 9 → updL (cleanL s.n) s.plate j = s.plate j := fun j hj => updL_out fun p hp e => by
    obtain ⟨q, hq, rfl⟩ := mem_cleanL hp
    simp only at e; omega
  refine wrsF_spec hu (fun p hp => ?_) ?_ (fun D hD => ⟨7, key D fun j hj => ?_⟩)
  · obtain ⟨q, hq, rfl⟩ := mem_cleanL hp
    exact ⟨by simp only; omega, by simp⟩
  · obtain ⟨k1, k2⟩ := key _ hout
    refine ⟨k1, ⟨hd.len, fun _ i hi => ?_, fun e => (by cases e), fun e => by omega⟩, k2⟩
    rw [hd.wipe rfl i hi, pad_row0, ← pad_nil]
    refine updL_in (fun p hp _ => ?_) (.inr ⟨(9 + i, []), List.mem_map.2 ⟨i, List.mem_range.2 hi, rfl⟩, rfl⟩)
    obtain ⟨q, hq, rfl⟩ := mem_cleanL hp
    rfl
  · rcases hD j with h | ⟨p, hp, e, _⟩
    · exact h
    · obtain ⟨q, _, rfl⟩ := mem_cleanL hp
      simp only at e; omega

/-! ### a change -/
abbrev Upd : Type := Int × List UInt8
def rowOf (x : List UInt8) : List UInt8 := x ++ List.replicate (48 - x.length) 0
theorem rowOf_length {x : List UInt8} (h : x.length ≤ 48) : (rowOf x).length = 48 := by simp [rowOf]; omega
/-- The places behind a change. -/
def doneP : List Upd → (Nat → List UInt8) → Nat → List UInt8
  | [], P => P
  | u :: l, P => doneP l fun i => if (i : Int) = u.1 then rowOf u.2 else P i
def badU (m : Nat) (u : Upd) : Prop := u.1 < 0 ∨ (m : Int) ≤ u.1 ∨ 48 < u.2.length
instance (m : Nat) (u : Upd) : Decidable (badU m u) := inferInstanceAs (Decidable (_ ∨ _ ∨ _))
def twiceU (l : List Upd) : Prop := ∃ i, ∃ hi : i < l.length, ∃ k, ∃ hk : k < i, (l[i]'hi).1 = (l[k]'(by omega)).1
/-- May a change be? the error. -/
noncomputable def rightE (m : Nat) (l : List Upd) : Nat := open Classical in if ∃ u ∈ l, badU m u then 1 else if twiceU l then 10 else if 6 < l.length then 6 else 0
theorem doneP_out {l : List Upd} {i : Nat} : ∀ {P : Nat → List UInt8}, (∀ u ∈ l, u.1 ≠ (i : Int)) → doneP l P i = P i := by
  induction l with
  | nil => intro P _; rfl
  | cons u l ih =>
    intro P h
    simp only [doneP]
    rw [ih fun v hv => h v (List.mem_cons_of_mem _ hv), if_neg fun e => h u (List.mem_cons_self ..) e.symm]
theorem doneP_in {l : List Upd} {i : Nat} {x : List UInt8} : ∀ {P : Nat → List UInt8}, (∀ u ∈ l, u.1 = (i : Int) → rowOf u.2 = x) → (P i = x ∨ ∃ u ∈ l, u.1 = (i : Int)) → doneP l P i = x := by
  induction l with
  | nil => intro P _ h; rcases h with h | ⟨p, hp, _⟩; exact h; simp at hp
  | cons u l ih =>
    intro P h1 h2
    simp only [doneP]
    apply ih fun v hv => h1 v (List.mem_cons_of_mem _ hv)
    by_cases e : (i : Int) = u.1
    · left; rw [if_pos e, h1 u (List.mem_cons_self ..) e.symm]
    · rw [if_neg e]
      rcases h2 with h2 | ⟨v, hv, he⟩
      · exact .inl h2
      · rcases List.mem_cons.1 hv with rfl | hv
        · exact absurd he.symm e
        · exact .inr ⟨v, hv, he⟩
def noteL (l : List Upd) : List (Nat × List UInt8) := l.mapIdx fun j u => (2 + j, secOf (noteB u.1.toNat (rowOf u.2)))
theorem mem_noteL {l : List Upd} {p : Nat × List UInt8} (h : p ∈ noteL l) : ∃ j, ∃ hj : j < l.length, p = (2 + j, secOf (noteB l[j].1.toNat (rowOf l[j].2))) := by
  obtain ⟨j, hj, rfl⟩ := List.mem_mapIdx.1 h
  exact ⟨j, hj, rfl⟩
theorem noteL_mem {l : List Upd} {j : Nat} (hj : j < l.length) : (2 + j, secOf (noteB l[j].1.toNat (rowOf l[j].2))) ∈ noteL l := List.mem_mapIdx.2 ⟨j, hj, rfl⟩
/-- The notes are laid. -/
theorem noteW {s : DS} (hu : Up s) {t n : Nat} {P : Nat → List UInt8} {l : List Upd} (hN : 10 ≤ s.n) (h : Hd s.plate t n 0) (hd : Dat s.plate s.n P 0) (hr : rightE (s.n - 9) l = 0) :
    Ran s (wrsF (noteL l) s) (fun D => Hd D t n 0 ∧ Dat D s.n P 0 ∧ Dat D s.n (doneP l P) l.length) (fun D => Jn D s.n t n P) := by
  unfold rightE at hr
  have hbad : ∀ u ∈ l, ¬ badU (s.n - 9) u := fun u hu hb => by rw [if_pos ⟨u, hu, hb⟩] at hr; cases hr
  rw [if_neg fun ⟨u, hu, hb⟩ => hbad u hu hb] at hr
  have htw : ¬ twiceU l := fun e => by rw [if_pos e] at hr; cases hr
  rw [if_neg htw] at hr
  have hlen : l.length ≤ 6 := by
    by_cases e : 6 < l.length
    · rw [if_pos e] at hr; cases hr
    · omega
  clear hr
  have hsec : ∀ j (hj : j < l.length), (secOf (noteB l[j].1.toNat (rowOf l[j].2))).length = 64 := fun j hj => secOf_length (by
    have := hbad _ (List.getElem_mem hj)
    unfold badU at this
    rw [noteB_length (rowOf_length (by omega))]; omega)
  have key : ∀ D : Nat → List UInt8, (∀ j, j < 2 ∨ 9 ≤ j → D j = s.plate j) → Hd D t n 0 ∧ Dat D s.n P 0 := fun D hD =>
    ⟨h.congr fun j hj => hD j (by omega), hd.len, fun _ i hi => by rw [hD _ (by omega)]; exact hd.set rfl i hi, fun e => (by cases e), fun e => by omega⟩
  have hout : ∀ j, j < 2 ∨ 9 ≤ j → updL (noteL l) s.plate j = s.plate j := fun j hj => updL_out fun p hp e => by
    obtain ⟨q, hq, rfl⟩ := mem_noteL hp
    simp only at e; omega
  refine wrsF_spec hu (fun p hp => ?_) ?_ (fun D hD => ⟨0, key D fun j hj => ?_⟩)
  · obtain ⟨q, hq, rfl⟩ := mem_noteL hp
    exact ⟨by simp only; omega, by simp only; rw [hsec q hq]; omega⟩
  · obtain ⟨k1, k2⟩ := key _ hout
    have hplen : ∀ i, i < s.n - 9 → (doneP l P i).length = 48 := fun i hi => by
      by_cases e : ∃ u ∈ l, u.1 = (i : Int)
      · obtain ⟨u, hul, e⟩ := e
        have : ∀ v ∈ l, v.1 = (i : Int) → rowOf v.2 = rowOf u.2 := fun v hv e2 => by
          obtain ⟨a, ha, rfl⟩ := List.getElem_of_mem hv
          obtain ⟨b, hb, rfl⟩ := List.getElem_of_mem hul
          rcases Nat.lt_trichotomy a b with h | h | h
          · exact absurd ⟨b, hb, a, h, by rw [e, e2]⟩ htw
          · subst h; rfl
          · exact absurd ⟨a, ha, b, h, by rw [e, e2]⟩ htw
        rw [doneP_in this (.inr ⟨u, hul, e⟩)]
        have := hbad _ hul
        unfold badU at this
        exact rowOf_length (by omega)
      · rw [doneP_out fun u hu e2 => e ⟨u, hu, e2⟩]; exact hd.len i hi
    refine ⟨k1, k2, hplen, fun e i hi => ?_, fun e => by omega, fun h1 h2 => ⟨fun j => if hj : j < l.length then l[j].1.toNat else 0, fun j hj => ?_, fun i hi hn => ?_⟩⟩
    · have : l = [] := List.eq_nil_of_length_eq_zero e
      subst this
      exact k2.set rfl i hi
    · have hb := hbad _ (List.getElem_mem hj)
      unfold badU at hb
      simp only [dif_pos hj]
      refine ⟨by omega, ?_⟩
      have hi : ((l[j].1.toNat : Nat) : Int) = l[j].1 := by omega
      rw [doneP_in (x := rowOf l[j].2) (fun v hv e2 => by
          rw [hi] at e2
          obtain ⟨a, ha, rfl⟩ := List.getElem_of_mem hv
          rcases Nat.lt_trichotomy a j with h | h | h
          · exact absurd ⟨j, hj, a, h, e2.symm⟩ htw
          · subst h; rfl
          · exact absurd ⟨a, ha, j, h, e2⟩ htw) (.inr ⟨l[j], List.getElem_mem hj, hi.symm⟩)]
      rw [← pad_sec (hsec j hj)]
      refine updL_in (fun p hp e => ?_) (.inr ⟨_, noteL_mem hj, rfl⟩)
      obtain ⟨q, hq, rfl⟩ := mem_noteL hp
      simp only at e
      obtain rfl : q = j := by omega
      rfl
    · rw [doneP_out fun u hul e => ?_, hout _ (by omega)]
      · exact hd.set rfl i hi
      · obtain ⟨a, ha, rfl⟩ := List.getElem_of_mem hul
        refine hn a ha ?_
        simp only [dif_pos ha]
        omega
  · rcases hD j with h | ⟨p, hp, e, _⟩
    · exact h
    · obtain ⟨q, hq, rfl⟩ := mem_noteL hp
      simp only at e; omega
end Go.Proofs.Ytlpbdnncbinbmaa
