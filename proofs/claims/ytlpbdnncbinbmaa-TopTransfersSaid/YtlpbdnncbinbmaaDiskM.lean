/- The mathematics of layer 3: a disk as plain data (what its sectors have, its cache, its power and fuse), and what each call makes of it. Nothing of the program is named here but sectors as values of a map. -/
import Derived.Test.YtlpbdnncbinbmaaTurn
namespace Go.Proofs.Ytlpbdnncbinbmaa
open Go.RowKit

/-- What a disk is. -/
structure DS where
  n : Nat
  plate : Nat → List UInt8
  cache : Nat → Option (List UInt8)
  on : Bool
  fuse : Int
/-- How many of the first sectors are in the cache. -/
def cnt (c : Nat → Option (List UInt8)) : Nat → Nat
  | 0 => 0
  | n + 1 => cnt c n + if (c n).isSome then 1 else 0
theorem cnt_le (c : Nat → Option (List UInt8)) : ∀ n, cnt c n ≤ n
  | 0 => Nat.le_refl _
  | n + 1 => by have := cnt_le c n; simp only [cnt]; split <;> omega
theorem cnt_none (n : Nat) : cnt (fun _ => none) n = 0 := by induction n with
  | zero => rfl
  | succ n ih => simp [cnt, ih]
theorem cnt_congr {c c' : Nat → Option (List UInt8)} : ∀ {n : Nat}, (∀ j, j < n → c j = c' j) → cnt c n = cnt c' n
  | 0, _ => rfl
  | n + 1, h => by simp only [cnt, h n (Nat.lt_succ_self n), cnt_congr fun j hj => h j (Nat.lt_succ_of_lt hj)]
def put (c : Nat → Option (List UInt8)) (i : Nat) (x : Option (List UInt8)) : Nat → Option (List UInt8) := fun j => if j = i then x else c j
theorem put_same (c : Nat → Option (List UInt8)) (i : Nat) (x : Option (List UInt8)) : put c i x i = x := by simp [put]
theorem put_other (c : Nat → Option (List UInt8)) {i j : Nat} (x : Option (List UInt8)) (h : j ≠ i) : put c i x j = c j := by simp [put, h]
theorem cnt_put (c : Nat → Option (List UInt8)) (i : Nat) (x : List UInt8) : ∀ {n : Nat}, i < n → cnt (put c i (some x)) n = cnt c n + if (c i).isSome then 0 else 1
  | 0, h => by omega
  | n + 1, h => by
    by_cases hi : i = n
    · subst hi
      simp only [cnt, put_same, Option.isSome_some, if_true]
      rw [cnt_congr (c' := c) fun j hj => put_other c _ (by omega)]
      split <;> omega
    · simp only [cnt, put_other c _ (show n ≠ i by omega)]
      rw [cnt_put c i x (show i < n by omega)]
      omega
theorem cnt_lt (c : Nat → Option (List UInt8)) {i : Nat} (h : (c i).isSome = true) : ∀ {n : Nat}, i < n → cnt c i < cnt c n
  | 0, h' => by omega
  | n + 1, h' => by
    by_cases hi : i = n
    · subst hi; simp [cnt, h]
    · have := cnt_lt c h (n := n) (by omega)
      simp only [cnt]; omega

def pad (xs : List UInt8) : List UInt8 := xs ++ List.replicate (64 - xs.length) 0
theorem pad_length {xs : List UInt8} (h : xs.length ≤ 64) : (pad xs).length = 64 := by simp [pad]; omega
def zeros : List UInt8 := List.replicate 64 0
theorem pad_nil : pad [] = zeros := by simp [pad, zeros]

def DS.step (s : DS) : DS := if s.fuse = 0 then { s with on := false } else if s.on = true ∧ 0 < s.fuse then { s with fuse := s.fuse - 1 } else s
def DS.has (s : DS) (i : Int) : Prop := 0 ≤ i ∧ i < s.n
instance (s : DS) (i : Int) : Decidable (s.has i) := inferInstanceAs (Decidable (_ ∧ _))
def DS.write (s : DS) (i : Int) (xs : List UInt8) : Nat × DS :=
  if ¬ s.has i ∨ 64 < xs.length then (1, s) else if s.step.on = true then (0, { s.step with cache := put s.cache i.toNat (some (pad xs)) }) else (8, s.step)
def DS.look (s : DS) (j : Nat) : List UInt8 := (s.cache j).getD (s.plate j)
def DS.read (s : DS) (i : Int) : List UInt8 × Nat :=
  if ¬ s.has i then ([], 1) else if s.on = true then (s.look i.toNat, 0) else ([], 8)
def DS.flush (s : DS) : Nat × DS :=
  if s.step.on = true then (0, { s.step with plate := s.look, cache := fun _ => none }) else (8, s.step)
def DS.arm (s : DS) (k : Int) : DS := { s with fuse := k }
def DS.cut (s : DS) : DS := { s with on := false }
/-- What sector j has behind a Start. -/
def DS.woken (s : DS) (keep : List Bool) (j : Nat) : List UInt8 :=
  match s.cache j with
  | some x => if keep.getD (cnt s.cache j) false then x else s.plate j
  | none => s.plate j
def DS.start (s : DS) (keep : List Bool) : Nat × DS :=
  if s.on = true then (11, s) else (0, { s with plate := s.woken keep, cache := fun _ => none, on := true, fuse := -1 })
def DS.dirty (s : DS) : Nat := cnt s.cache s.n
def DS.fresh (n : Nat) : DS := ⟨n, fun _ => zeros, fun _ => none, true, -1⟩

theorem step_n (s : DS) : s.step.n = s.n := by unfold DS.step; split; rfl; split <;> rfl
theorem step_plate (s : DS) : s.step.plate = s.plate := by unfold DS.step; split; rfl; split <;> rfl
theorem step_cache (s : DS) : s.step.cache = s.cache := by unfold DS.step; split; rfl; split <;> rfl

/-! ### sectors as a map's elements -/
def isByte : Value → Bool
  | .int .u8 n => decide (0 ≤ n ∧ n < 256)
  | _ => false
theorem isByte_bv (c : UInt8) : isByte (bv c) = true := by have := c.toNat_lt; simp [isByte, bv]; omega
theorem bv_unbv {v : Value} (h : isByte v = true) : bv (unbv v) = v := by
  unfold isByte at h
  split at h
  · rename_i n
    rw [decide_eq_true_eq] at h
    simp only [bv, unbv, UInt8.toNat_ofNat']
    congr 1
    omega
  · cases h
theorem bvs_unbv : ∀ {l : List Value}, l.all isByte = true → bvs (l.map unbv) = l
  | [], _ => rfl
  | v :: l, h => by
    simp only [List.all_cons, Bool.and_eq_true] at h
    have := bvs_unbv h.2
    simp only [bvs, List.map_cons, bv_unbv h.1] at *
    rw [this]
/-- How a sector reads. -/
def secE (v : Value) : Option (DataW Unit × List MemPlace) :=
  match v with
  | .agg cs => if cs.size = 64 ∧ cs.toList.all isByte = true then some (.lit (.string (cs.toList.map unbv)), []) else none
  | _ => none
theorem secE_mk {xs : List UInt8} (h : xs.length = 64) : secE (.agg (bvs xs).toArray) = some (.lit (.string xs), []) := by
  have h1 : (bvs xs).all isByte = true := by
    rw [List.all_eq_true]
    intro v hv
    obtain ⟨c, _, rfl⟩ := List.mem_map.1 hv
    exact isByte_bv c
  simp only [secE, List.size_toArray, bvs_length, h, h1, and_self, if_true, map_unbv]
theorem secE_inv {v : Value} {z : DataW Unit × List MemPlace} (h : secE v = some z) : ∃ xs : List UInt8, xs.length = 64 ∧ v = .agg (bvs xs).toArray ∧ z = (.lit (.string xs), []) := by
  unfold secE at h
  split at h
  · rename_i cs
    split at h
    · rename_i hc
      injection h with h
      subst h
      refine ⟨cs.toList.map unbv, by simpa using hc.1, ?_, rfl⟩
      rw [bvs_unbv hc.2]
    · cases h
  · cases h

/-- A sector's number as a key. -/
def key (j : Nat) : Lit := .int .i64 (j : Int)
theorem key_ne {i j : Nat} (h : i ≠ j) : key i ≠ key j := by
  intro e
  simp only [key, Lit.int.injEq, true_and] at e
  omega
theorem key_is (j : Nat) : WideAt.IsKeyLit (key j) := trivial

/-- The datum D is the cache c of n sectors. -/
structure MpIs (D : DataW Unit) (c : Nat → Option (List UInt8)) (n : Nat) : Prop where
  tidy : Maps.Tidy D
  has : ∀ j, j < n → Maps.has D (key j) = (c j).isSome
  at_ : ∀ j, j < n → ∀ xs, c j = some xs → xs.length = 64 ∧ ∀ z, D.atKey (key j) z = .lit (.string xs)
  out : ∀ kl, Maps.has D kl = true → ∃ j, j < n ∧ kl = key j
  size : Maps.size D = cnt c n
theorem MpIs.empty (n : Nat) : MpIs (.map []) (fun _ => none) n :=
  ⟨Maps.tidy_empty, fun _ _ => rfl, fun _ _ _ h => (by cases h), fun _ h => (by simp [Maps.has] at h), by simp [Maps.size, cnt_none]⟩
theorem MpIs.put {D : DataW Unit} {c : Nat → Option (List UInt8)} {n : Nat} (h : MpIs D c n) {i : Nat} (hi : i < n) {xs : List UInt8} (hx : xs.length = 64) : MpIs (D.put (key i) (.lit (.string xs))) (put c i (some xs)) n where
  tidy := h.tidy.put (key_is i) _
  has j hj := by
    by_cases e : j = i
    · subst e; rw [put_same, Maps.has_put_same h.tidy.isMap (key_is j)]; rfl
    · rw [put_other _ _ e, Maps.has_put_other (key_ne e)]; exact h.has j hj
  at_ j hj ys hy := by
    by_cases e : j = i
    · subst e
      rw [put_same] at hy
      injection hy with hy
      subst hy
      exact ⟨hx, fun z => Maps.atKey_put_same h.tidy.isMap (key_is j) _ z⟩
    · rw [put_other _ _ e] at hy
      obtain ⟨h1, h2⟩ := h.at_ j hj ys hy
      exact ⟨h1, fun z => by rw [Maps.atKey_put_other (key_ne e)]; exact h2 z⟩
  out kl hk := by
    by_cases e : kl = key i
    · exact ⟨i, hi, e⟩
    · rw [Maps.has_put_other e] at hk
      exact h.out kl hk
  size := by
    rw [Maps.size_put h.tidy, cnt_put c i xs hi, h.has i hi, h.size]
    split <;> simp
end Go.Proofs.Ytlpbdnncbinbmaa
