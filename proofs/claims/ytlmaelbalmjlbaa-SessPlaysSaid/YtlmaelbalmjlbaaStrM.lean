/- Layer 10: the mathematics of records' bytes: what is encoded is read, however it is cut; bytes tell one record alone. Nothing of the program is named here. -/
import Derived.Test.YtlmaelbalmjlbaaSumN
import Derived.Test.YtlmaelbalmjlbaaPackM
set_option linter.all false
namespace Go.Proofs.Ytlmaelbalmjlbaa.Str

/-- A record. -/
structure Rec where
  k : Int
  sh : Int
  sn : Int
  ba : Int
  ma : Int
  off : Int
  len : Int
  d : List Nat
deriving DecidableEq

def far (z : Int) : Prop := 0 ≤ z ∧ z ≤ 2147483648
instance (z : Int) : Decidable (far z) := by unfold far; infer_instance
/-- Which kinds of records there are. -/
def Kinds (r : Rec) : Prop :=
  (r.k = 1 ∧ r.off = 0 ∧ r.d = []) ∨
  (r.k = 2 ∧ r.sh = 0 ∧ r.sn = 0 ∧ r.ba = 0 ∧ r.ma = 0 ∧ r.len = 0 ∧ 1 ≤ r.d.length ∧ r.d.length ≤ 64) ∨
  (r.k = 3 ∧ r.sh = 0 ∧ r.sn = 0 ∧ r.ba = 0 ∧ r.ma = 0 ∧ 1 ≤ r.len ∧ r.d = []) ∨
  (r.k = 4 ∧ r.sh = 0 ∧ r.sn = 0 ∧ r.ba = 0 ∧ r.ma = 0 ∧ r.off = 0 ∧ r.d = [])
instance (r : Rec) : Decidable (Kinds r) := by unfold Kinds; infer_instance
/-- Is it a record? -/
def MayR (r : Rec) : Prop := Kinds r ∧ far r.sh ∧ far r.sn ∧ far r.ba ∧ far r.ma ∧ far r.off ∧ far r.len
instance (r : Rec) : Decidable (MayR r) := by unfold MayR; infer_instance
/-- Numbers of 64 bits. -/
def W64 (l : List Nat) : Prop := ∀ x ∈ l, x < 18446744073709551616

theorem Kinds.kind {r : Rec} (h : Kinds r) : 1 ≤ r.k ∧ r.k ≤ 4 := by
  rcases h with h | h | h | h <;> omega
theorem Kinds.data {r : Rec} (h : Kinds r) : r.d.length ≤ 64 := by
  rcases h with ⟨_, _, h⟩ | ⟨_, _, _, _, _, _, _, h⟩ | ⟨_, _, _, _, _, _, h⟩ | ⟨_, _, _, _, _, _, h⟩ <;> simp_all

/-- The numbers ahead of its data. -/
def heads (r : Rec) : List Nat := [r.k.toNat, r.sh.toNat, r.sn.toNat, r.ba.toNat, r.ma.toNat, r.off.toNat, r.len.toNat, r.d.length]
def bodyR (r : Rec) : List UInt8 := numsBytes (heads r ++ r.d)
def sealL (y : List UInt8) : List UInt8 := y ++ sumBytes (adOf [y])
/-- A record's bytes. -/
def recB (r : Rec) : List UInt8 := numBytes (sealL (bodyR r)).length ++ sealL (bodyR r)
def encL (l : List Rec) : List UInt8 := l.flatMap recB

theorem sealL_length (y : List UInt8) : (sealL y).length = y.length + 4 := by
  rw [sealL, List.length_append, sumBytes_length]
theorem bodyR_length (r : Rec) : (bodyR r).length = 64 + 8 * r.d.length := by
  simp only [bodyR, numsBytes_length, List.length_append, heads, List.length_cons, List.length_nil]; omega
theorem recB_length (r : Rec) : (recB r).length = 76 + 8 * r.d.length := by
  rw [recB, List.length_append, numBytes_length, sealL_length, bodyR_length]; omega
theorem encL_nil : encL [] = [] := rfl
theorem encL_cons (r : Rec) (l : List Rec) : encL (r :: l) = recB r ++ encL l := by simp [encL]
theorem encL_append (l m : List Rec) : encL (l ++ m) = encL l ++ encL m := by simp [encL]
theorem encL_one (r : Rec) : encL [r] = recB r := by simp [encL]

/-- So many numbers, from the head on. -/
def readN : Nat → List UInt8 → List Nat
  | 0, _ => []
  | k + 1, x => numAt x :: readN k (x.drop 8)
theorem readN_length (k : Nat) (x : List UInt8) : (readN k x).length = k := by
  induction k generalizing x with
  | zero => rfl
  | succ k ih => simp [readN, ih]
theorem readN_lt (k : Nat) (x : List UInt8) : W64 (readN k x) := by
  induction k generalizing x with
  | zero => intro y h; simp [readN] at h
  | succ k ih =>
    intro y h
    rw [readN, List.mem_cons] at h
    rcases h with rfl | h
    · exact numAt_lt x
    · exact ih _ y h
theorem readN_nums (l : List Nat) (z : List UInt8) (h : W64 l) : readN l.length (numsBytes l ++ z) = l := by
  induction l generalizing z with
  | nil => rfl
  | cons n l ih =>
    rw [List.length_cons, readN, numsBytes_cons, List.append_assoc, numAt_numBytes n (h n (by simp))]
    rw [List.drop_left' (numBytes_length n), ih z (fun y hy => h y (by simp [hy]))]
theorem nums_readN (k : Nat) (x : List UInt8) (h : 8 * k ≤ x.length) : numsBytes (readN k x) = x.take (8 * k) := by
  induction k generalizing x with
  | zero => simp [readN, numsBytes]
  | succ k ih =>
    rw [readN, numsBytes_cons, numBytes_numAt x (by omega), ih (x.drop 8) (by rw [List.length_drop]; omega)]
    rw [show 8 * (k + 1) = 8 + 8 * k by omega, List.take_add]
theorem numsBytes_append (l m : List Nat) : numsBytes (l ++ m) = numsBytes l ++ numsBytes m := by simp [numsBytes]
theorem readN_at (k i : Nat) (x : List UInt8) (h : i < k) : (readN k x)[i]'(by rw [readN_length]; exact h) = numAt (x.drop (8 * i)) := by
  induction k generalizing x i with
  | zero => omega
  | succ k ih =>
    cases i with
    | zero => simp [readN]
    | succ i =>
      simp only [readN, List.getElem_cons_succ]
      rw [ih i (x.drop 8) (by omega), List.drop_drop]
      congr 2
      omega

/-- The record that numbers tell. -/
def recOf (y : List UInt8) : Rec :=
  ⟨numAt y, numAt (y.drop 8), numAt (y.drop 16), numAt (y.drop 24), numAt (y.drop 32), numAt (y.drop 40), numAt (y.drop 48), readN (numAt (y.drop 56)) (y.drop 64)⟩
/-- Are bytes a record's body? -/
def FormR (y : List UInt8) : Prop := 64 ≤ y.length ∧ y.length = 64 + 8 * numAt (y.drop 56) ∧ MayR (recOf y)
instance (y : List UInt8) : Decidable (FormR y) := by unfold FormR; infer_instance
/-- What is wrong with bytes that were sealed: 4 the sum, 5 the form. -/
def decE (x : List UInt8) : Int := if okSum x = true then (if FormR (x.take (x.length - 4)) then 0 else 5) else 4
/-- The record that bytes tell. -/
def decV (x : List UInt8) : Rec := recOf (x.take (x.length - 4))

theorem heads_read (y : List UInt8) : readN 8 y = [numAt y, numAt (y.drop 8), numAt (y.drop 16), numAt (y.drop 24), numAt (y.drop 32), numAt (y.drop 40), numAt (y.drop 48), numAt (y.drop 56)] := by
  simp only [readN, List.drop_drop]

theorem far_lt {z : Int} (h : far z) : z.toNat < 18446744073709551616 := by unfold far at h; omega
theorem heads_lt {r : Rec} (h : MayR r) : W64 (heads r) := by
  have hk := h.1.kind
  have hd := h.1.data
  obtain ⟨_, h1, h2, h3, h4, h5, h6⟩ := h
  intro x hx
  simp only [heads, List.mem_cons, List.not_mem_nil, or_false] at hx
  rcases hx with rfl | rfl | rfl | rfl | rfl | rfl | rfl | rfl
  · omega
  · exact far_lt h1
  · exact far_lt h2
  · exact far_lt h3
  · exact far_lt h4
  · exact far_lt h5
  · exact far_lt h6
  · omega

theorem recOf_body (r : Rec) (h : MayR r) (hw : W64 r.d) (z : List UInt8) : recOf (bodyR r ++ z) = r ∧ numAt ((bodyR r ++ z).drop 56) = r.d.length := by
  have e : bodyR r ++ z = numsBytes (heads r) ++ (numsBytes r.d ++ z) := by rw [bodyR, numsBytes_append, List.append_assoc]
  have e8 : readN 8 (bodyR r ++ z) = heads r := by
    rw [e]; exact readN_nums (heads r) _ (heads_lt h)
  rw [heads_read] at e8
  simp only [heads, List.cons.injEq, and_true] at e8
  obtain ⟨a0, a1, a2, a3, a4, a5, a6, a7⟩ := e8
  have hd : (bodyR r ++ z).drop 64 = numsBytes r.d ++ z := by
    rw [e]; exact List.drop_left' (by rw [numsBytes_length]; rfl)
  refine ⟨?_, a7⟩
  have hk := h.1.kind
  obtain ⟨_, ⟨h1, _⟩, ⟨h2, _⟩, ⟨h3, _⟩, ⟨h4, _⟩, ⟨h5, _⟩, ⟨h6, _⟩⟩ := h
  unfold recOf
  rw [a0, a1, a2, a3, a4, a5, a6, a7, hd, readN_nums r.d z hw]
  cases r
  simp only [Rec.mk.injEq, and_true] at *
  omega

theorem okSum_seal (y : List UInt8) : okSum (sealL y) = true := by
  rw [okSum_at (sealL y) y.length (by rw [sealL_length])]
  rw [sealL, List.drop_left, List.take_left]
  simp
theorem seal_take (y : List UInt8) : (sealL y).take ((sealL y).length - 4) = y := by
  rw [sealL_length, show y.length + 4 - 4 = y.length by omega, sealL, List.take_left]
theorem seal_of_ok (x : List UInt8) (h : okSum x = true) : x = sealL (x.take (x.length - 4)) := by
  by_cases h4 : x.length < 4
  · rw [okSum_small x h4] at h; cases h
  · rw [okSum_join x (x.length - 4) (by omega)] at h
    exact (beq_iff_eq.1 h).symm

/-- What was encoded is told. -/
theorem dec_enc (r : Rec) (h : MayR r) (hw : W64 r.d) : decE (sealL (bodyR r)) = 0 ∧ decV (sealL (bodyR r)) = r := by
  have h0 := recOf_body r h hw []
  rw [List.append_nil] at h0
  unfold decE decV
  rw [okSum_seal, if_pos rfl, seal_take]
  refine ⟨if_pos ⟨?_, ?_, ?_⟩, h0.1⟩
  · rw [bodyR_length]; omega
  · rw [bodyR_length, h0.2]
  · rw [h0.1]; exact h
/-- Bytes that tell a record are that record's. -/
theorem enc_dec (x : List UInt8) (h : decE x = 0) : x = sealL (bodyR (decV x)) ∧ MayR (decV x) ∧ W64 (decV x).d := by
  unfold decE at h
  by_cases ho : okSum x = true
  · rw [if_pos ho] at h
    by_cases hf : FormR (x.take (x.length - 4))
    · refine ⟨?_, hf.2.2, readN_lt _ _⟩
      have e := seal_of_ok x ho
      unfold decV
      generalize x.take (x.length - 4) = y at *
      rw [e]
      congr 1
      obtain ⟨h64, hl, hm⟩ := hf
      have ha : numsBytes (readN 8 y) = y.take 64 := nums_readN 8 y (by omega)
      have hb : numsBytes (readN (numAt (y.drop 56)) (y.drop 64)) = y.drop 64 := by
        rw [nums_readN _ _ (by rw [List.length_drop]; omega)]
        exact List.take_of_length_le (by rw [List.length_drop]; omega)
      have hh : heads (recOf y) = readN 8 y := by
        rw [heads_read]
        simp only [heads, recOf, Int.toNat_natCast, readN_length]
      rw [bodyR, numsBytes_append, hh, ha]
      have : (recOf y).d = readN (numAt (y.drop 56)) (y.drop 64) := rfl
      rw [this, hb, List.take_append_drop]
    · rw [if_neg hf] at h; cases h
  · rw [if_neg ho] at h; cases h

/-- Is a record's bytes all there, ahead of all, and is it one? -/
def goes (b : List UInt8) : Bool := decide (8 ≤ b.length) && (decide (numAt b ≤ 700) && (decide (numAt b + 8 ≤ b.length) && decide (decE ((b.drop 8).take (numAt b)) = 0)))
/-- The fault of the bytes ahead; 0: there is none, or a record is there. -/
def failE (b : List UInt8) : Int :=
  if b.length < 8 then 0 else if 700 < numAt b then 6 else if b.length < numAt b + 8 then 0 else decE ((b.drop 8).take (numAt b))
/-- The first record. -/
def firstR (b : List UInt8) : Rec := decV ((b.drop 8).take (numAt b))

theorem goes_iff (b : List UInt8) : goes b = true ↔ 8 ≤ b.length ∧ numAt b ≤ 700 ∧ numAt b + 8 ≤ b.length ∧ decE ((b.drop 8).take (numAt b)) = 0 := by
  simp [goes]

/-- What is read: the records, what waits, the fault, how many bytes went. -/
def runR (b : List UInt8) : List Rec × List UInt8 × Int × Nat :=
  if h : goes b = true then
    let t := runR (b.drop (8 + numAt b))
    (firstR b :: t.1, t.2.1, t.2.2.1, 8 + numAt b + t.2.2.2)
  else ([], if failE b = 0 then b else [], failE b, 0)
termination_by b.length
decreasing_by
  have := (goes_iff b).1 h
  rw [List.length_drop]; omega

theorem runR_goes (b : List UInt8) (h : goes b = true) : runR b = (firstR b :: (runR (b.drop (8 + numAt b))).1, (runR (b.drop (8 + numAt b))).2.1, (runR (b.drop (8 + numAt b))).2.2.1, 8 + numAt b + (runR (b.drop (8 + numAt b))).2.2.2) := by
  rw [runR, dif_pos h]
theorem runR_stops (b : List UInt8) (h : goes b = false) : runR b = ([], if failE b = 0 then b else [], failE b, 0) := by
  rw [runR, dif_neg (by rw [h]; exact Bool.false_ne_true)]

theorem recB_numAt (r : Rec) (h : MayR r) (z : List UInt8) : numAt (recB r ++ z) = 68 + 8 * r.d.length := by
  have hd := h.1.data
  rw [recB, List.append_assoc, numAt_numBytes _ (by rw [sealL_length, bodyR_length]; omega), sealL_length, bodyR_length]
  omega
theorem recB_drop (r : Rec) (z : List UInt8) : ((recB r ++ z).drop 8).take (68 + 8 * r.d.length) = sealL (bodyR r) := by
  rw [recB, List.append_assoc, List.drop_left' (numBytes_length _)]
  exact List.take_left' (by rw [sealL_length, bodyR_length]; omega)
/-- A record's bytes ahead of others are read. -/
theorem goes_rec (r : Rec) (h : MayR r) (hw : W64 r.d) (z : List UInt8) :
    goes (recB r ++ z) = true ∧ firstR (recB r ++ z) = r ∧ (recB r ++ z).drop (8 + numAt (recB r ++ z)) = z := by
  have hd := h.1.data
  have hn := recB_numAt r h z
  have hl := recB_length r
  refine ⟨(goes_iff _).2 ⟨?_, ?_, ?_, ?_⟩, ?_, ?_⟩
  · rw [List.length_append]; omega
  · omega
  · rw [List.length_append]; omega
  · rw [hn, recB_drop]; exact (dec_enc r h hw).1
  · rw [firstR, hn, recB_drop]; exact (dec_enc r h hw).2
  · rw [hn]; exact List.drop_left' (by omega)
theorem runR_rec (r : Rec) (h : MayR r) (hw : W64 r.d) (z : List UInt8) : runR (recB r ++ z) = (r :: (runR z).1, (runR z).2.1, (runR z).2.2.1, (recB r).length + (runR z).2.2.2) := by
  obtain ⟨h1, h2, h3⟩ := goes_rec r h hw z
  rw [runR_goes _ h1, h2, h3, recB_numAt r h z, recB_length, show 8 + (68 + 8 * r.d.length) = 76 + 8 * r.d.length by omega]
/-- All of a list may be. -/
def AllMay (l : List Rec) : Prop := ∀ r ∈ l, MayR r ∧ W64 r.d
theorem AllMay.tail {r : Rec} {l : List Rec} (h : AllMay (r :: l)) : AllMay l := fun x hx => h x (List.mem_cons_of_mem _ hx)
theorem AllMay.drop {l : List Rec} (h : AllMay l) (n : Nat) : AllMay (l.drop n) := fun x hx => h x (List.mem_of_mem_drop hx)
theorem AllMay.take {l : List Rec} (h : AllMay l) (n : Nat) : AllMay (l.take n) := fun x hx => h x (List.mem_of_mem_take hx)
theorem runR_enc (l : List Rec) (h : AllMay l) (z : List UInt8) : runR (encL l ++ z) = (l ++ (runR z).1, (runR z).2.1, (runR z).2.2.1, (encL l).length + (runR z).2.2.2) := by
  induction l with
  | nil => simp [encL]
  | cons r l ih =>
    have hr := h r List.mem_cons_self
    rw [encL_cons, List.append_assoc, runR_rec r hr.1 hr.2, ih h.tail]
    simp only [List.length_append, List.cons_append, Nat.add_assoc]
theorem runR_nil : runR [] = ([], [], 0, 0) := by
  rw [runR_stops [] (by rfl)]
  rfl
theorem runR_all (l : List Rec) (h : AllMay l) : runR (encL l) = (l, [], 0, (encL l).length) := by
  have := runR_enc l h []
  rw [List.append_nil, runR_nil] at this
  simpa using this

/-- A first part of a record's bytes, not all: nothing is read, and there is no fault. -/
theorem part_waits (r : Rec) (h : MayR r) (u v : List UInt8) (he : u ++ v = recB r) (hv : v ≠ []) : goes u = false ∧ failE u = 0 := by
  have hd := h.1.data
  have hl := recB_length r
  have hvl : 0 < v.length := List.length_pos_iff.2 hv
  have hul : u.length + v.length = (recB r).length := by rw [← he, List.length_append]
  by_cases h8 : 8 ≤ u.length
  · have hn : numAt u = 68 + 8 * r.d.length := by
      have := recB_numAt r h []
      rw [List.append_nil, ← he] at this
      rw [← this]
      unfold numAt
      rw [List.take_append_of_le_length h8]
    refine ⟨?_, ?_⟩
    · rw [Bool.eq_false_iff]
      intro hg
      have := (goes_iff u).1 hg
      omega
    · unfold failE
      rw [if_neg (by omega), if_neg (by omega), if_pos (by omega)]
  · refine ⟨?_, ?_⟩
    · rw [Bool.eq_false_iff]
      intro hg
      have := (goes_iff u).1 hg
      omega
    · unfold failE
      rw [if_pos (by omega)]

/-- A first part of the bytes of records: some of them are read, what waits is a first part of the others, and there is no fault. -/
theorem runR_cut (l : List Rec) (h : AllMay l) (u v : List UInt8) (he : u ++ v = encL l) :
    ∃ j, j ≤ l.length ∧ (runR u).1 = l.take j ∧ (runR u).2.1 ++ v = encL (l.drop j) ∧ (runR u).2.2.1 = 0 ∧ (runR u).2.2.2 = (encL (l.take j)).length := by
  induction l generalizing u with
  | nil =>
    have hu : u = [] := by
      have : (u ++ v).length = 0 := by rw [he]; rfl
      rw [List.length_append] at this
      exact List.eq_nil_of_length_eq_zero (by omega)
    subst hu
    refine ⟨0, Nat.le_refl _, ?_⟩
    rw [runR_nil]
    exact ⟨rfl, he, rfl, rfl⟩
  | cons r l ih =>
    have hr := h r List.mem_cons_self
    rw [encL_cons] at he
    by_cases hc : (recB r).length ≤ u.length
    · obtain ⟨u2, rfl⟩ : ∃ u2, u = recB r ++ u2 := by
        refine ⟨u.drop (recB r).length, ?_⟩
        have : (u ++ v).take (recB r).length = recB r := by rw [he, List.take_left]
        rw [List.take_append_of_le_length hc] at this
        conv => lhs; rw [← List.take_append_drop (recB r).length u]
        rw [this]
      rw [List.append_assoc] at he
      obtain ⟨j, hj, h1, h2, h3, h4⟩ := ih h.tail u2 (List.append_cancel_left he)
      refine ⟨j + 1, by simp only [List.length_cons]; omega, ?_⟩
      rw [runR_rec r hr.1 hr.2]
      refine ⟨?_, ?_, h3, ?_⟩
      · simp only [h1, List.take_succ_cons]
      · simp only [List.drop_succ_cons]; exact h2
      · simp only [List.take_succ_cons, encL_cons, List.length_append, h4]
    · obtain ⟨v2, hv2, hv⟩ : ∃ v2, u ++ v2 = recB r ∧ v2 ≠ [] := by
        refine ⟨(recB r).drop u.length, ?_, ?_⟩
        · have : (recB r ++ encL l).take u.length = u := by rw [← he, List.take_left]
          rw [List.take_append_of_le_length (by omega)] at this
          conv => rhs; rw [← List.take_append_drop u.length (recB r)]
          rw [this]
        · intro hn
          have := congrArg List.length hn
          rw [List.length_drop, List.length_nil] at this
          omega
      obtain ⟨hg, hf⟩ := part_waits r hr.1 u v2 hv2 hv
      refine ⟨0, Nat.zero_le _, ?_⟩
      rw [runR_stops u hg, hf]
      refine ⟨rfl, ?_, rfl, rfl⟩
      rw [if_pos rfl, List.drop_zero, encL_cons, he]

/-- Bytes ahead that tell a record are its own. -/
theorem goes_own (b : List UInt8) (h : goes b = true) : b.take (8 + numAt b) = recB (firstR b) ∧ numAt b = 68 + 8 * (firstR b).d.length := by
  obtain ⟨h8, h7, hl, hd⟩ := (goes_iff b).1 h
  have hx := (enc_dec _ hd).1
  have hn : ((b.drop 8).take (numAt b)).length = numAt b := by
    rw [List.length_take, List.length_drop]; omega
  have hs : (sealL (bodyR (firstR b))).length = numAt b := by
    rw [firstR, ← hx, hn]
  refine ⟨?_, ?_⟩
  · rw [recB, hs, numBytes_numAt b h8, List.take_add]
    congr 1
  · rw [sealL_length, bodyR_length] at hs; omega
/-- Records' bytes of which one was turned: those ahead of it are read, and it is not. -/
theorem turned (l : List Rec) (h : AllMay l) (m j : Nat) (hm : m < l.length) (y : UInt8) (hj : j < (recB l[m]).length) (hy : (recB l[m])[j] ≠ y) :
    ∃ t : List Rec, (runR ((encL l).set ((encL (l.take m)).length + j) y)).1 = l.take m ++ t ∧ t.head? ≠ some l[m] := by
  have e : encL l = encL (l.take m) ++ (recB l[m] ++ encL (l.drop (m + 1))) := by
    conv => lhs; rw [← List.take_append_drop m l, encL_append, List.drop_eq_getElem_cons hm, encL_cons]
  have es : (encL l).set ((encL (l.take m)).length + j) y = encL (l.take m) ++ ((recB l[m]).set j y ++ encL (l.drop (m + 1))) := by
    rw [e, List.set_append_right _ _ (by omega), Nat.add_sub_cancel_left, List.set_append_left _ _ hj]
  rw [es, runR_enc _ (h.take m)]
  refine ⟨_, rfl, ?_⟩
  generalize hz : (recB l[m]).set j y ++ encL (l.drop (m + 1)) = z
  cases hg : goes z with
  | false => rw [runR_stops z hg]; simp
  | true =>
    rw [runR_goes z hg]
    simp only [List.head?_cons, ne_eq, Option.some.injEq]
    intro hf
    obtain ⟨ht, hn⟩ := goes_own z hg
    rw [hf] at ht hn
    have hl := recB_length l[m]
    have : z.take (8 + numAt z) = (recB l[m]).set j y := by
      rw [← hz]
      refine List.take_left' ?_
      rw [hz, hn, List.length_set]; omega
    rw [this] at ht
    apply hy
    have h2 : ((recB l[m]).set j y)[j]'(by rw [List.length_set]; exact hj) = y := by simp
    simp only [ht] at h2
    exact h2

end Go.Proofs.Ytlmaelbalmjlbaa.Str
