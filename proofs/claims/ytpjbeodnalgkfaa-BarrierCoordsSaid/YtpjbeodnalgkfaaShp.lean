/- Plain data that come in, opened by their types: numbers, Booleans, texts, structs, slices of these, to any depth. Nothing of the program is named here. -/
import Derived.Test.YtpjbeodnalgkfaaLaw
import Derived.Test.YtpjbeodnalgkfaaOwn
import Derived.Deep.CondSized
import Derived.Deep.Slices
import Derived.ProofKit
set_option linter.all false
namespace Go.Proofs.Ytpjbeodnalgkfaa
open Go.ChangeShapes Go.WideShapes Go.ChangeAt Go.RowKit

/-- How cells read as a value of α: n cells; R holds of a world, the cells and the value; bulk: at least so much is what was read. -/
structure Shp (α : Type) where
  n : Nat
  R : World → List Value → α → Prop
  bulk : α → Nat
  keep : ∀ {w w' cs a}, R w cs a → Below w.heap.size w w' → R w' cs a
def Shp.int (k : IntKind) (lo hi : Int) : Shp Int := ⟨1, fun _ cs z => cs = [.int k z] ∧ lo ≤ z ∧ z ≤ hi, fun _ => 1, fun h _ => h⟩
def Shp.nat (k : IntKind) (hi : Nat) : Shp Nat := ⟨1, fun _ cs z => cs = [.int k (z : Int)] ∧ z < hi, fun _ => 1, fun h _ => h⟩
def Shp.u8 : Shp UInt8 := ⟨1, fun _ cs c => cs = [.int .u8 (c.toNat : Int)], fun _ => 1, fun h _ => h⟩
def Shp.bool : Shp Bool := ⟨1, fun _ cs b => cs = [.bool b], fun _ => 1, fun h _ => h⟩
def Shp.str : Shp ByteArray := ⟨1, fun _ cs s => cs = [.string s] ∧ s.size ≤ 9223372036854775807, fun s => s.size + 1, fun h _ => h⟩
def Shp.unit : Shp Unit := ⟨0, fun _ cs _ => cs = [], fun _ => 0, fun h _ => h⟩
def Shp.pair {α β : Type} (s : Shp α) (t : Shp β) : Shp (α × β) :=
  ⟨s.n + t.n, fun w cs a => ∃ c1 c2, cs = c1 ++ c2 ∧ c1.length = s.n ∧ s.R w c1 a.1 ∧ t.R w c2 a.2, fun a => s.bulk a.1 + t.bulk a.2,
    fun ⟨c1, c2, h1, h2, h3, h4⟩ hb => ⟨c1, c2, h1, h2, s.keep h3 hb, t.keep h4 hb⟩⟩
def Shp.agg {α : Type} (s : Shp α) : Shp α := ⟨s.n, s.R, fun a => s.bulk a + 1, s.keep⟩
def bulks {α : Type} (s : Shp α) : List α → Nat
  | [] => 0
  | a :: l => s.bulk a + bulks s l
/-- Cell j of row i. -/
def Shp.slice {α : Type} (s : Shp α) (bytes : Nat) : Shp (List α) :=
  ⟨1, fun w cs l => ∃ A c, cs = [.slice A l.length c] ∧ l.length ≤ c ∧ c ≤ 9223372036854775807 ∧ c * bytes ≤ 140737488351232 ∧ (A = none → c = 0) ∧
      ∀ (i : Nat) (h : i < l.length), ∃ b o vs, A = some ⟨b, o, none⟩ ∧ vs.length = s.n ∧ (∀ j u, vs[j]? = some u → w.cell? ⟨b, o + i * s.n + j, none⟩ = some u) ∧ s.R w vs l[i],
    fun l => bulks s l + 1,
    fun ⟨A, c, h1, h2, h3, h4, h5, h6⟩ hb => ⟨A, c, h1, h2, h3, h4, h5, fun i hi => by
      obtain ⟨b, o, vs, e, hl, hc, hr⟩ := h6 i hi
      exact ⟨b, o, vs, e, hl, fun j u hu => (hb.cell (cell_lt (hc j u hu))).trans (hc j u hu), s.keep hr hb⟩⟩⟩

theorem one_le_bulk {H : Type} (d : DataW H) : 1 ≤ Rows.uptoBulk d := by
  cases d with
  | lit l => cases l <;> simp [Rows.uptoBulk]
  | nil => simp [Rows.uptoBulk]
  | ptr d => simp [Rows.uptoBulk]
  | slice elems spare => simp [Rows.uptoBulk]
  | agg parts => simp [Rows.uptoBulk]
  | iface t d => simp [Rows.uptoBulk]
  | map entries => simp [Rows.uptoBulk]
  | held h => simp [Rows.uptoBulk]
theorem bulkAll_append {H : Type} (l r : List (DataW H)) : Rows.uptoBulkAll (l ++ r) = Rows.uptoBulkAll l + Rows.uptoBulkAll r := by
  induction l with
  | nil => simp [Rows.uptoBulkAll]
  | cons x l ih => simp only [List.cons_append, Rows.uptoBulkAll, ih]; omega
theorem weightsAll_in {H : Type} {P : Program} {e : TypeId} : ∀ {l : List (DataW H)} {d : DataW H}, d ∈ l → ∀ n ∈ d.weights P e, n ∈ DataW.weightsAll P e l
  | x :: l, d, hd, n, hn => by
    simp only [DataW.weightsAll, List.mem_append]
    rcases List.mem_cons.1 hd with rfl | h
    · exact .inl hn
    · exact .inr (weightsAll_in h n hn)

/-- Type t is opened by the shape s. -/
def Opens {α : Type} (P : Program) (t : TypeId) (s : Shp α) : Prop :=
  P.cellsOf t = s.n ∧ ∀ (H : Type) (enc : TypeId × Value → H) (w : World) (base : Nat) (held : Bool) (fuel : Nat) (cs : List Value) (x : DataW H × List MemPlace),
    DataW.trod enc P w base (fun _ => true) held fuel t cs = some x → (∀ m ∈ x.1.weights P t, m ≤ reachBytes) → ∃ a, s.R w cs a ∧ s.bulk a ≤ Rows.uptoBulk x.1
/-- The fields fs, from cell off on, are opened by the shape s. -/
def OpensF {α : Type} (P : Program) (fs : List Field) (off : Nat) (s : Shp α) : Prop :=
  ∀ (H : Type) (enc : TypeId × Value → H) (w : World) (base : Nat) (held : Bool) (n : Nat) (cs : List Value) (xs : List (DataW H × List MemPlace)), cs.length = off + s.n → xs.length = fs.length →
    (∀ (i : Nat) (f : Field), fs[i]? = some f → DataW.trod enc P w base (fun _ => true) held n f.type ((cs.drop f.offset).take (P.cellsOf f.type)) = xs[i]?) →
    (∀ m ∈ DataW.weightsEach P (fs.map (·.type)) (xs.map (·.1)), m ≤ reachBytes) → ∃ a, s.R w (cs.drop off) a ∧ s.bulk a ≤ Rows.uptoBulkAll (xs.map (·.1))

section
variable {P : Program} {t e : TypeId}
theorem opens_int {k : IntKind} (lo hi : Int) (ht : P.underlying t = some (.int k)) (hc : P.cellsOf t = 1) (hb : ∀ z, (Lit.int k z).wf = true → lo ≤ z ∧ z ≤ hi) : Opens P t (Shp.int k lo hi) :=
  ⟨hc, fun H enc w base held fuel cs x h _ => by
    obtain ⟨n, rfl, rfl, hw⟩ := DataW.trod_int ht h
    exact ⟨n, ⟨rfl, hb n hw⟩, by simp [Shp.int, Rows.uptoBulk]⟩⟩
theorem opens_nat {k : IntKind} (hi : Nat) (ht : P.underlying t = some (.int k)) (hc : P.cellsOf t = 1) (hb : ∀ z, (Lit.int k z).wf = true → 0 ≤ z ∧ z < (hi : Int)) : Opens P t (Shp.nat k hi) :=
  ⟨hc, fun H enc w base held fuel cs x h _ => by
    obtain ⟨n, rfl, rfl, hw⟩ := DataW.trod_int ht h
    obtain ⟨h0, h1⟩ := hb n hw
    obtain ⟨k, rfl⟩ := Int.eq_ofNat_of_zero_le h0
    exact ⟨k, ⟨rfl, by omega⟩, by simp [Shp.nat, Rows.uptoBulk]⟩⟩
theorem opens_u8 (ht : P.underlying t = some (.int .u8)) (hc : P.cellsOf t = 1) : Opens P t Shp.u8 :=
  ⟨hc, fun H enc w base held fuel cs x h _ => by
    obtain ⟨n, rfl, rfl, hw⟩ := DataW.trod_int ht h
    exact ⟨UInt8.ofNat n.toNat, by simp only [Shp.u8]; rw [← byte_of hw], by simp [Shp.u8, Rows.uptoBulk]⟩⟩
theorem opens_bool (ht : P.underlying t = some .bool) (hc : P.cellsOf t = 1) : Opens P t Shp.bool :=
  ⟨hc, fun H enc w base held fuel cs x h _ => by
    obtain ⟨b, rfl, rfl⟩ := DataW.trod_bool ht h
    exact ⟨b, rfl, by simp [Shp.bool, Rows.uptoBulk]⟩⟩
theorem opens_str (ht : P.underlying t = some .string) (hc : P.cellsOf t = 1) : Opens P t Shp.str :=
  ⟨hc, fun H enc w base held fuel cs x h _ => by
    obtain ⟨b, rfl, rfl, hs⟩ := DataW.trod_string ht h
    exact ⟨b, ⟨rfl, by unfold maxLen at hs; exact hs⟩, by simp [Shp.str, Rows.uptoBulk]⟩⟩
theorem opensF_nil (off : Nat) : OpensF P [] off Shp.unit := fun H enc w base held n cs xs hl _ _ _ =>
  ⟨(), List.drop_of_length_le (by simp [Shp.unit] at hl; omega), by simp [Shp.unit]⟩
theorem opensF_cons {α β : Type} {f : Field} {fs : List Field} {off : Nat} {s : Shp α} {r : Shp β} (hs : Opens P f.type s) (ho : f.offset = off) (hr : OpensF P fs (off + s.n) r) : OpensF P (f :: fs) off (Shp.pair s r) :=
  fun H enc w base held n cs xs hl hx hall hw => by
    cases xs with
    | nil => simp at hx
    | cons x xs =>
      have h0 := hall 0 f rfl
      simp only [List.getElem?_cons_zero] at h0
      rw [ho, hs.1] at h0
      simp only [List.map_cons, DataW.weightsEach, List.mem_append] at hw
      obtain ⟨a, ha, hba⟩ := hs.2 H enc w base held n _ _ h0 (fun m hm => hw m (.inl hm))
      obtain ⟨b, hb, hbb⟩ := hr H enc w base held n cs xs (by rw [hl]; simp only [Shp.pair]; omega) (by simpa using hx) (fun i g hg => by simpa using hall (i + 1) g (by simpa using hg)) (fun m hm => hw m (.inr hm))
      refine ⟨(a, b), ⟨(cs.drop off).take s.n, cs.drop (off + s.n), ?_, ?_, ha, hb⟩, ?_⟩
      · rw [← List.drop_drop, List.take_append_drop]
      · rw [List.length_take, List.length_drop, hl]; simp only [Shp.pair]; omega
      · simp only [Shp.pair, List.map_cons, Rows.uptoBulkAll]; omega
theorem opens_struct {α : Type} {fs : Array Field} {s : Shp α} (ht : P.underlying t = some (.struct fs)) (hc : P.cellsOf t = s.n) (hs : OpensF P fs.toList 0 s) : Opens P t (Shp.agg s) :=
  ⟨hc, fun H enc w base held fuel cs x h hw => by
    obtain ⟨xs, n, _, rfl, hl, hxl, hall⟩ := DataW.trod_struct ht h
    simp only [DataW.weights, ht] at hw
    obtain ⟨a, ha, hb⟩ := hs H enc w base held n cs xs (by rw [hl, hc]; simp) (by simpa using hxl) (fun i f hf => hall i f (by simpa using hf)) hw
    exact ⟨a, by simpa [Shp.agg] using ha, by simp only [Shp.agg, Rows.uptoBulk]; omega⟩⟩
/-- An array of two. -/
theorem opens_arr2 {α : Type} {s : Shp α} {e : TypeId} (ht : P.underlying t = some (.array 2 e)) (hc : P.cellsOf t = s.n + (s.n + 0)) (hs : Opens P e s) : Opens P t (Shp.agg (Shp.pair s (Shp.pair s Shp.unit))) :=
  ⟨hc, fun H enc w base held fuel cs x h hw => by
    obtain ⟨xs, m, _, rfl, hl, hxl, hall⟩ := DataW.trod_array ht h
    simp only [DataW.weights, ht] at hw
    match xs, hxl with
    | [x0, x1], _ =>
      have h0 := hall 0 (by omega)
      have h1 := hall 1 (by omega)
      simp only [hs.1, Nat.zero_mul, List.drop_zero, Nat.one_mul, List.getElem?_cons_zero, List.getElem?_cons_succ] at h0 h1
      obtain ⟨a0, r0, b0⟩ := hs.2 H enc w base held m _ _ h0 (fun q hq => hw q (weightsAll_in (by simp) q hq))
      obtain ⟨a1, r1, b1⟩ := hs.2 H enc w base held m _ _ h1 (fun q hq => hw q (weightsAll_in (by simp) q hq))
      rw [hc] at hl
      refine ⟨(a0, a1, ()), ⟨cs.take s.n, cs.drop s.n, (List.take_append_drop _ _).symm, by rw [List.length_take]; omega, r0, (cs.drop s.n).take s.n, [], by rw [List.append_nil, List.take_of_length_le (by rw [List.length_drop]; omega)], by rw [List.length_take, List.length_drop]; omega, r1, rfl⟩, ?_⟩
      simp only [Shp.agg, Shp.pair, Shp.unit, Rows.uptoBulk, List.map_cons, List.map_nil, Rows.uptoBulkAll]
      omega⟩
theorem bulks_le {H : Type} {α : Type} {s : Shp α} : ∀ {l : List α} {ds : List (DataW H)}, l.length = ds.length → (∀ (i : Nat) a d, l[i]? = some a → ds[i]? = some d → s.bulk a ≤ Rows.uptoBulk d) → bulks s l ≤ Rows.uptoBulkAll ds
  | [], [], _, _ => Nat.le_refl _
  | a :: l, d :: ds, hl, h => by
    have h1 := h 0 a d rfl rfl
    have h2 := bulks_le (l := l) (ds := ds) (by simpa using hl) (fun i a' d' ha hd => h (i + 1) a' d' (by simpa using ha) (by simpa using hd))
    simp only [bulks, Rows.uptoBulkAll]
    omega
theorem list_of {α : Type} {Q : Nat → α → Prop} : ∀ {n : Nat}, (∀ i, i < n → ∃ b, Q i b) → ∃ l : List α, l.length = n ∧ ∀ (i : Nat) (h : i < l.length), Q i l[i]
  | 0, _ => ⟨[], rfl, fun i h => by simp at h⟩
  | n + 1, h => by
    obtain ⟨l, hl, hq⟩ := list_of (n := n) (fun i hi => h i (by omega))
    obtain ⟨b, hb⟩ := h n (by omega)
    refine ⟨l ++ [b], by simp [hl], fun i hi => ?_⟩
    by_cases hin : i < l.length
    · rw [List.getElem_append_left hin]; exact hq i hin
    · have : i = n := by simp at hi; omega
      subst this
      subst hl
      simpa using hb
theorem opens_slice {α : Type} {s : Shp α} (bytes : Nat) (ht : P.underlying t = some (.slice e)) (hc : P.cellsOf t = 1) (hby : P.bytesOf e = bytes) (hn : 0 < s.n) (hs : Opens P e s) : Opens P t (Shp.slice s bytes) :=
  ⟨hc, fun H enc w base held fuel cs x h hw => by
    rcases Go.Deep.open_slice ht h with ⟨rfl, rfl⟩ | ⟨a, len, cap, m, n, D, Pl, rfl, _, hl, hm, hmm, rfl, hi⟩
    · exact ⟨[], ⟨none, 0, rfl, by simp, by simp, by simp, fun _ => rfl, fun i h => by simp at h⟩, by simp [Shp.slice, bulks, Rows.uptoBulk]⟩
    · simp only [if_true] at hmm
      subst hmm
      simp only [DataW.weights, ht, hby, List.length_map, List.length_range, List.mem_cons, List.mem_append, forall_eq_or_imp] at hw
      have hrb : reachBytes = 140737488351232 := by decide
      have hcap : m * bytes ≤ 140737488351232 := by
        have := hw.1
        rw [hrb, show len + (m - len) = m by omega] at this
        exact this
      have hplain : 0 < len → ∃ b o, a = ⟨b, o, none⟩ := fun h0 => by
        obtain ⟨cs', hc', _⟩ := hi 0 (by omega)
        rw [hs.1] at hc'
        obtain ⟨_, hcl, hat⟩ := World.cells?_some hc'
        have h2 := hat 0 hn
        rw [List.getElem?_eq_getElem (by omega)] at h2
        have h3 := cell_spot h2
        obtain ⟨b, o, sp⟩ := a
        refine ⟨b, o, ?_⟩
        simp only [Addr.add, Nat.zero_mul, if_true] at h3
        rw [h3]
      have each : ∀ i, i < len → ∃ b : α, (∃ vs : List Value, vs.length = s.n ∧ (∀ j u, vs[j]? = some u → w.cell? ((a.add (i * s.n)).add j) = some u) ∧ s.R w vs b) ∧ s.bulk b ≤ Rows.uptoBulk (D i) := by
        intro i hil
        obtain ⟨cs', hc', ht'⟩ := hi i (by omega)
        rw [hs.1] at hc'
        obtain ⟨_, hcl, hat⟩ := World.cells?_some hc'
        obtain ⟨b, hb, hbb⟩ := hs.2 H enc w base held n cs' _ ht' (fun q hq => hw.2 q (.inl (weightsAll_in (List.mem_map.2 ⟨i, by simpa using hil, rfl⟩) q hq)))
        exact ⟨b, ⟨cs', hcl, fun j u hu => by rw [hat j (by rw [← hcl]; exact (List.getElem?_eq_some_iff.1 hu).1)]; exact hu, hb⟩, hbb⟩
      obtain ⟨l, hll, hlq⟩ := list_of each
      refine ⟨l, ⟨some a, m, by rw [hll], by omega, by unfold maxLen at hm; exact hm, hcap, fun h => (by cases h), fun i hil => ?_⟩, ?_⟩
      · obtain ⟨⟨vs, hvl, hvc, hvr⟩, _⟩ := hlq i hil
        have hpl := hplain (by omega)
        obtain ⟨bk, o, hbo⟩ := hpl
        subst hbo
        refine ⟨bk, o, vs, rfl, hvl, fun j u hu => ?_, hvr⟩
        have := hvc j u hu
        rwa [add_plain, add_plain] at this
      · simp only [Shp.slice, Rows.uptoBulk]
        have := bulks_le (s := s) (l := l) (ds := (List.range len).map D) (by simp [hll]) (fun i b d hb hd => by
          obtain ⟨hil, hb⟩ := List.getElem?_eq_some_iff.1 hb
          obtain ⟨_, hq⟩ := hlq i hil
          rw [hb] at hq
          rw [hll] at hil
          simp [hil] at hd
          rw [← hd]
          exact hq)
        omega⟩
end

/-! ### from what is opened to the words of the walks -/
theorem bs_shp {w : World} {A : Option Addr} {n c : Nat} {xs : List UInt8} (h : (Shp.slice Shp.u8 1).R w [.slice A n c] xs) : Bs w A n xs ∧ n ≤ c ∧ (A = none → n = 0 ∧ c = 0) ∧ c ≤ 140737488351232 := by
  obtain ⟨A', c', e, h1, h2, h3, h4, h5⟩ := h
  simp only [List.cons.injEq, Value.slice.injEq, and_true] at e
  obtain ⟨rfl, rfl, rfl⟩ := e
  refine ⟨⟨by simp [bvs], fun j u hu => ?_⟩, h1, fun h => ⟨by have := h4 h; omega, h4 h⟩, by omega⟩
  have hj : j < xs.length := by have := (List.getElem?_eq_some_iff.1 hu).1; simpa [bvs] using this
  obtain ⟨b, o, vs, rfl, hl, hc, hr⟩ := h5 j hj
  simp only [bvs, List.getElem?_map, List.getElem?_eq_getElem hj, Option.map_some, Option.some.injEq] at hu
  have hr : vs = [bv xs[j]] := hr
  subst hr
  refine ⟨b, o, rfl, ?_⟩
  have := hc 0 _ rfl
  simp only [Shp.u8, Nat.mul_one, Nat.add_zero] at this
  rw [← hu]
  exact this
theorem bss_shp {w : World} {A : Option Addr} {n c : Nat} {xss : List (List UInt8)} (h : (Shp.slice (Shp.slice Shp.u8 1) 24).R w [.slice A n c] xss) : Bss w A n xss ∧ n ≤ c ∧ (A = none → n = 0 ∧ c = 0) ∧ c ≤ 9223372036854775807 ∧ ∀ l ∈ xss, l.length ≤ 140737488351232 := by
  obtain ⟨A', c', e, h1, h2, h3, h4, h5⟩ := h
  simp only [List.cons.injEq, Value.slice.injEq, and_true] at e
  obtain ⟨rfl, rfl, rfl⟩ := e
  refine ⟨⟨rfl, fun j hj => ?_⟩, h1, fun h => ⟨by have := h4 h; omega, h4 h⟩, h2, fun l hl => ?_⟩
  · obtain ⟨b, o, vs, rfl, hl, hc, hr⟩ := h5 j hj
    have hr0 := hr
    obtain ⟨A2, c2, rfl, g1, g2, g3, g4, g5⟩ := hr0
    obtain ⟨hb, _⟩ := bs_shp hr
    refine ⟨b, o, A2, _, c2, rfl, ?_, g1, by omega, hb⟩
    have := hc 0 _ rfl
    simpa [Shp.slice] using this
  · obtain ⟨j, hj, rfl⟩ := List.getElem_of_mem hl
    obtain ⟨b, o, vs, rfl, hl, hc, hr⟩ := h5 j hj
    obtain ⟨A2, c2, rfl, g1, g2, g3, g4, g5⟩ := hr
    omega
theorem ns_shp {w : World} {A : Option Addr} {n c : Nat} {l : List Nat} (h : (Shp.slice (Shp.nat .u64 18446744073709551616) 8).R w [.slice A n c] l) : Ns w A n l ∧ n ≤ c ∧ (A = none → n = 0 ∧ c = 0) ∧ c * 8 ≤ 140737488351232 := by
  obtain ⟨A', c', e, h1, h2, h3, h4, h5⟩ := h
  simp only [List.cons.injEq, Value.slice.injEq, and_true] at e
  obtain ⟨rfl, rfl, rfl⟩ := e
  refine ⟨⟨⟨by simp [nvs], fun j u hu => ?_⟩, fun z hz => ?_⟩, h1, fun h => ⟨by have := h4 h; omega, h4 h⟩, h3⟩
  · have hj : j < l.length := by have := (List.getElem?_eq_some_iff.1 hu).1; simpa [nvs] using this
    obtain ⟨b, o, vs, rfl, hl, hc, hr, _⟩ := h5 j hj
    simp only [nvs, List.getElem?_map, List.getElem?_eq_getElem hj, Option.map_some, Option.some.injEq] at hu
    subst hr
    refine ⟨b, o, rfl, ?_⟩
    have := hc 0 _ rfl
    simp only [Shp.nat, Nat.mul_one, Nat.add_zero] at this
    rw [← hu]
    exact this
  · obtain ⟨j, hj, rfl⟩ := List.getElem_of_mem hz
    obtain ⟨b, o, vs, rfl, hl, hc, hr, hlt⟩ := h5 j hj
    exact hlt
theorem bulks_parts (xss : List (List UInt8)) : (xss.map List.length).sum + xss.length ≤ bulks (Shp.slice Shp.u8 1) xss := by
  induction xss with
  | nil => simp [bulks]
  | cons x xss ih =>
    have h1 : ∀ l : List UInt8, l.length ≤ bulks Shp.u8 l := by
      intro l
      induction l with
      | nil => simp [bulks]
      | cons c l ih => simp only [bulks, Shp.u8, List.length_cons] at *; omega
    have := h1 x
    simp only [List.map_cons, List.sum_cons, List.length_cons, bulks]
    simp only [Shp.slice] at *
    omega
theorem bulks_nat (k : IntKind) (hi : Nat) (l : List Nat) : l.length ≤ bulks (Shp.nat k hi) l := by
  induction l with
  | nil => simp [bulks]
  | cons c l ih => simp only [bulks, Shp.nat, List.length_cons] at *; omega
theorem bulks_u8 (l : List UInt8) : l.length ≤ bulks Shp.u8 l := by
  induction l with
  | nil => simp [bulks]
  | cons c l ih => simp only [bulks, Shp.u8, List.length_cons] at *; omega

/-! ### arguments -/
section
variable {H : Type} {enc : TypeId × Value → H} {P : Program} {W : World} {base b0 : Nat} {held : Bool} {r : Reach} {t e : TypeId} {v : Value} {d : DataW H} {ps : List MemPlace}
theorem arg_slice {α : Type} {s : Shp α} {bytes : Nat} (ho : Opens P t (Shp.slice s bytes)) (ht : P.underlying t = some (.slice e)) (hval : Value.okWide P W r b0 t v) (hd : DataW.Trod enc P W base (fun _ => true) held t v d ps) (hw : ∀ m ∈ d.weights P t, m ≤ reachBytes) :
    ∃ A n c l, v = .slice A n c ∧ (Shp.slice s bytes).R W [.slice A n c] l ∧ bulks s l + 1 ≤ Rows.uptoBulk d := by
  obtain ⟨A, n, c, rfl⟩ := okWide_slice ht hval
  obtain ⟨fuel, hf⟩ := hd
  obtain ⟨l, hl, hb⟩ := ho.2 H enc W base held fuel _ _ hf hw
  exact ⟨A, n, c, l, rfl, hl, hb⟩
theorem arg_struct {α : Type} {s : Shp α} {fs : Array Field} (ho : Opens P t s) (ht : P.underlying t = some (.struct fs)) (hval : Value.okWide P W r b0 t v) (hd : DataW.Trod enc P W base (fun _ => true) held t v d ps) (hw : ∀ m ∈ d.weights P t, m ≤ reachBytes) :
    ∃ cs a, v = .agg cs ∧ s.R W cs.toList a ∧ s.bulk a ≤ Rows.uptoBulk d := by
  obtain ⟨cs, rfl, _⟩ := okWide_struct ht hval
  obtain ⟨fuel, hf⟩ := hd
  obtain ⟨a, ha, hb⟩ := ho.2 H enc W base held fuel _ _ hf hw
  exact ⟨cs, a, rfl, by simpa [Value.cells] using ha, hb⟩
theorem arg_arr {α : Type} {s : Shp α} {n : Nat} {e : TypeId} (ho : Opens P t s) (ht : P.underlying t = some (.array n e)) (hval : Value.okWide P W r b0 t v) (hd : DataW.Trod enc P W base (fun _ => true) held t v d ps) (hw : ∀ m ∈ d.weights P t, m ≤ reachBytes) :
    ∃ cs a, v = .agg cs ∧ s.R W cs.toList a ∧ s.bulk a ≤ Rows.uptoBulk d := by
  simp only [Value.okWide, ht] at hval
  obtain ⟨cs, rfl, _⟩ := hval
  obtain ⟨fuel, hf⟩ := hd
  obtain ⟨a, ha, hb⟩ := ho.2 H enc W base held fuel _ _ hf hw
  exact ⟨cs, a, rfl, by simpa [Value.cells] using ha, hb⟩
theorem arg_int {k : IntKind} (lo hi : Int) (ht : P.underlying t = some (.int k)) (hval : Value.okWide P W r b0 t v) (hd : DataW.Trod enc P W base (fun _ => true) held t v d ps) (hb : ∀ z, (Lit.int k z).wf = true → lo ≤ z ∧ z ≤ hi) : ∃ z, v = .int k z ∧ lo ≤ z ∧ z ≤ hi := by
  obtain ⟨z, rfl, rfl, rfl, ws⟩ := open_int ht hval hd
  exact ⟨z, rfl, hb z ws⟩
theorem arg_nat {k : IntKind} (hi : Nat) (ht : P.underlying t = some (.int k)) (hval : Value.okWide P W r b0 t v) (hd : DataW.Trod enc P W base (fun _ => true) held t v d ps) (hb : ∀ z, (Lit.int k z).wf = true → 0 ≤ z ∧ z < (hi : Int)) : ∃ z : Nat, v = .int k (z : Int) ∧ z < hi := by
  obtain ⟨z, rfl, rfl, rfl, ws⟩ := open_int ht hval hd
  obtain ⟨h0, h1⟩ := hb z ws
  obtain ⟨k, rfl⟩ := Int.eq_ofNat_of_zero_le h0
  exact ⟨k, rfl, by omega⟩
theorem wf_u64 (z : Int) (h : (Lit.int .u64 z).wf = true) : 0 ≤ z ∧ z < ((18446744073709551616 : Nat) : Int) := by
  have := bounds_u64 h; omega
theorem wf_u8 (z : Int) (h : (Lit.int .u8 z).wf = true) : 0 ≤ z ∧ z < ((256 : Nat) : Int) := by
  have := bounds_u8 h; omega
theorem wf_i64 (z : Int) (h : (Lit.int .i64 z).wf = true) : -9223372036854775808 ≤ z ∧ z ≤ 9223372036854775807 := by
  have := bounds_i64 h; omega
end

/-! ### the second form -/
section
variable {H : Type} {enc : TypeId × Value → H}
theorem law_upto {C : Checked} {os : Os} {f : FuncId} {fn : Func} {s : ChangeSpec} {tb : TypeId} {F : Stop.Interp}
    (own : ownKnob C.prog.godebug = none) (started : os.Started) (noInit : C.prog.inits.idxOf? f = none) (hfn : C.prog.funcs[f]? = some fn)
    (witness : ∃ (w : World) (tape : Tape) (i : Input), w.os = os ∧ (w.forCall tape i).Shaped C.prog ∧ i.vars = [] ∧ Input.okWide C.prog (w.forCall tape i) .any w.heap.size f i ∧
      (Rows.OpenSpec.upto s).pre6 enc C.prog fn [] false (w.forCall tape i).memory i.args ∧ ({} : Assume).holds C.prog (lone (Frame.enter C.prog f i.args .normal) [] (w.forCall tape i)))
    (hvars : s.vars = []) (hres : fn.resultTypes = #[tb]) (htb : C.prog.underlying tb = some .bool) (hl : laidOutB C.prog = true)
    (hp : fn.params.toList.all (fun t => C.prog.readableRec t && decide (t < C.prog.types.size)) = true)
    (hspec : ∀ ds : List (DataW H), ds.length = fn.params.toList.length → s.fn H ds = { results := [.lit (.bool true)], args := ds })
    (contract : ∀ (W : World) (base : Nat) (args : Array Value) (ds : List (DataW H)) (p : List MemPlace),
      (∀ (j : Nat) t v, fn.params[j]? = some t → args[j]? = some v → Value.okWide C.prog W .any base t v) →
      DataW.TrodAll enc C.prog W 0 (fun _ => true) true fn.params.toList args.toList ds p → W.noneFrozen p →
      (DataW.weightsEach C.prog fn.params.toList ds).all (· ≤ reachBytes) = true → Rows.uptoBulkAll ds ≤ 1048576 →
      Calls C.prog f args W fun e W' => e = .returned (.bool true) ∧ Below W.heap.size W W') :
    ReturnsInHanded {} C os f .any ((Rows.OpenSpec.upto s).pre6 enc C.prog fn [] false) (((Rows.OpenSpec.upto s).at F).post enc C.prog fn false true false false) := by
  refine returnsInHanded_of_cond_sized (s := Rows.OpenSpec.upto s) (k := Rows.uptoSmall) rfl own started noInit hfn witness ?_
  intro W base args ds gs before hval hW _ hk hsz _
  have hW' := hW
  obtain ⟨p, q, hA, hV, rfl, hfz, _⟩ := hW
  have hv0 : (Rows.OpenSpec.upto s).vars = s.vars := rfl
  rw [hv0, hvars] at hV
  obtain ⟨rfl, rfl⟩ := trodVars_none hV
  have hlen := trodAll_length hA
  have hvt : (Rows.OpenSpec.upto s).bare.plain.varTypes C.prog = [] := by
    show s.plain.varTypes C.prog = []
    simp [ChangeSpec.plain, DataSpec.varTypes, hvars]
  rw [hvt, List.append_nil, List.append_nil] at hsz
  simp only [List.append_nil] at hW' hk
  refine (contract W base args ds p hval hA (by simpa using hfz) hsz (of_decide_eq_true hk)).mono fun e W' ⟨he, hb⟩ => ⟨_, he, ?_⟩
  have hlt : ∀ x ∈ p, x.block < W.heap.size := fun x hx => hW'.lt x hx
  have hr : ∀ t ∈ fn.params.toList, C.prog.readableRec t = true ∧ t < C.prog.types.size := fun t ht => by
    have := List.all_eq_true.1 hp t ht
    simpa using this
  show s.post enc C.prog fn false true false false W args _ W'
  refine ⟨ds, [], p, [], p, [], hW', ?_, ?_, by rw [hvars, List.append_nil, hspec ds hlen]; rfl, World.keptBut_mono (fun x hx => ⟨hx, .inr (.inl hx)⟩) (hb.frame (· ∈ p)), fun h => by cases h⟩
  · rw [List.append_nil, hspec ds hlen, hres]
    exact trodAll_mk1 (shut_bool htb true)
  · rw [List.append_nil, hspec ds hlen]
    exact trodAll_below hl hb hr hA hlt
end
end Go.Proofs.Ytpjbeodnalgkfaa
