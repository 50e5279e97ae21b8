/- General words of this verifier: slices that read as lists of cells, frames, and the step from a contract to a given statement. Nothing of the program is named here. -/
import Derived.Test.YtpjbeodnalgkfaaRows
import Derived.WalkKit
import Derived.WalkSpells
import Derived.WalkLawsBesides
import Derived.Handy
import Derived.BigQuiet
import Derived.Lib.Hide
import Derived.Lib.SlBytesConst
import Derived.Lib.SmallJoins
import Derived.Maps.AppendAt
import Derived.Deep.AppendLies
import Derived.Deep.Onto
import Derived.Deep.RegionWith
import Derived.Deep.DeepMust
set_option linter.all false
namespace Go.Proofs.Ytpjbeodnalgkfaa
open Go.RowKit

/-- The slice value '.slice A n _' reads in w as the cells xs (sz cells an element). -/
def Rd (w : World) (A : Option Addr) (sz n : Nat) (xs : List Value) : Prop :=
  xs.length = n * sz ∧ ∀ (j : Nat) (u : Value), xs[j]? = some u → ∃ b o, A = some ⟨b, o, none⟩ ∧ w.cell? ⟨b, o + j, none⟩ = some u

/-- All cells below block B are as they were. -/
def Keeps (B : Nat) (w w' : World) : Prop := ∀ p : Addr, p.block < B → w'.cell? p = w.cell? p

theorem cell_lt {w : World} {p : Addr} {u : Value} (h : w.cell? p = some u) : p.block < w.heap.size := by
  rcases Nat.lt_or_ge p.block w.heap.size with hlt | hge
  · exact hlt
  · unfold World.cell? at h
    rw [Array.getElem?_eq_none hge] at h
    cases h

theorem cell_spot {w : World} {p : Addr} {u : Value} (h : w.cell? p = some u) : p.spot = none := by
  unfold World.cell? at h
  split at h
  · split at h
    · cases h
    · rename_i h'; simpa using h'
  · cases h

theorem Rd.nil {w : World} {A : Option Addr} {sz : Nat} : Rd w A sz 0 [] := ⟨by simp, by simp⟩
theorem Rd.keep {w w' : World} {A : Option Addr} {sz n : Nat} {xs : List Value} (h : Rd w A sz n xs) (hk : Keeps w.heap.size w w') : Rd w' A sz n xs :=
  ⟨h.1, fun j u hu => by
    obtain ⟨b, o, e, hc⟩ := h.2 j u hu
    exact ⟨b, o, e, (hk _ (cell_lt hc)).trans hc⟩⟩
theorem Rd.below {w w' : World} {A : Option Addr} {sz n : Nat} {xs : List Value} (h : Rd w A sz n xs) (hb : Below w.heap.size w w') : Rd w' A sz n xs :=
  h.keep fun _ hp => hb.cell hp
theorem Rd.alloc {w : World} {A : Option Addr} {sz n : Nat} {xs : List Value} (h : Rd w A sz n xs) (o : Obj) : Rd (w.alloc o) A sz n xs :=
  h.keep fun p hp => World.cell?_alloc_lt w o p hp
theorem Rd.at_ {w : World} {A : Option Addr} {n : Nat} {xs : List Value} (h : Rd w A 1 n xs) {k : Nat} (hk : k < n) :
    ∃ b o, A = some ⟨b, o, none⟩ ∧ ∃ hx : k < xs.length, w.cell? ⟨b, o + k, none⟩ = some xs[k] := by
  have hl : k < xs.length := by have := h.1; omega
  obtain ⟨b, o, e, hc⟩ := h.2 k xs[k] (List.getElem?_eq_getElem hl)
  exact ⟨b, o, e, hl, hc⟩
/-- x[k:] -/
theorem Rd.drop {w : World} {A : Option Addr} {n cap : Nat} {sz : Nat} {xs : List Value} (h : Rd w A sz n xs) {k : Nat} (hk : k ≤ n) (hc : n ≤ cap) :
    Rd w (if cap = k then A else A.map (·.add (k * sz))) sz (n - k) (xs.drop (k * sz)) := by
  refine ⟨by rw [List.length_drop, h.1, Nat.sub_mul], fun j u hu => ?_⟩
  rw [List.getElem?_drop] at hu
  obtain ⟨b, o, rfl, hcell⟩ := h.2 _ u hu
  by_cases hck : cap = k
  · have hl := (List.getElem?_eq_some_iff.1 hu).1
    have hnk : n = k := by omega
    rw [h.1, hnk] at hl
    omega
  · rw [if_neg hck]
    by_cases h0 : k * sz = 0
    · exact ⟨b, o, by simp [Addr.add, h0], by rw [h0] at hcell; simpa using hcell⟩
    · exact ⟨b, o + k * sz, by simp [Addr.add, h0], by rw [Nat.add_assoc]; exact hcell⟩
/-- x[:k] -/
theorem Rd.take {w : World} {A : Option Addr} {n : Nat} {sz : Nat} {xs : List Value} (h : Rd w A sz n xs) {k : Nat} (hk : k ≤ n) :
    Rd w A sz k (xs.take (k * sz)) := by
  refine ⟨by rw [List.length_take, h.1]; exact Nat.min_eq_left (Nat.mul_le_mul_right _ hk), fun j u hu => ?_⟩
  refine h.2 j u ?_
  rw [List.getElem?_take] at hu
  split at hu
  · exact hu
  · cases hu

theorem add_plain (b o k : Nat) : (⟨b, o, none⟩ : Addr).add k = ⟨b, o + k, none⟩ := by
  unfold Addr.add; by_cases h : k = 0 <;> simp [h]
/-- A byte as a value; bytes as values. -/
def bv (c : UInt8) : Value := .int .u8 (c.toNat : Int)
def bvs (xs : List UInt8) : List Value := xs.map bv
theorem bvs_length (xs : List UInt8) : (bvs xs).length = xs.length := by simp [bvs]
theorem bvs_append (xs ys : List UInt8) : bvs (xs ++ ys) = bvs xs ++ bvs ys := by simp [bvs]
theorem bvs_drop (xs : List UInt8) (k : Nat) : (bvs xs).drop k = bvs (xs.drop k) := by simp [bvs]
theorem bvs_take (xs : List UInt8) (k : Nat) : (bvs xs).take k = bvs (xs.take k) := by simp [bvs]

/-- The slice value '.slice A n _' reads in w as bytes. -/
def Bs (w : World) (A : Option Addr) (n : Nat) (xs : List UInt8) : Prop := Rd w A 1 n (bvs xs)
theorem Bs.len {w : World} {A : Option Addr} {n : Nat} {xs : List UInt8} (h : Bs w A n xs) : n = xs.length := by
  have := h.1; rw [bvs_length] at this; omega
theorem Bs.at_ {w : World} {A : Option Addr} {n : Nat} {xs : List UInt8} (h : Bs w A n xs) {k : Nat} (hk : k < n) :
    ∃ b o, A = some ⟨b, o, none⟩ ∧ ∃ hx : k < xs.length, w.cell? ⟨b, o + k, none⟩ = some (.int .u8 ((xs[k]'hx).toNat : Int)) := by
  obtain ⟨b, o, e, hx, hc⟩ := Rd.at_ h hk
  exact ⟨b, o, e, by simpa [bvs_length] using hx, by simpa [bvs, bv] using hc⟩
theorem Bs.drop {w : World} {A : Option Addr} {n cap : Nat} {xs : List UInt8} (h : Bs w A n xs) {k : Nat} (hk : k ≤ n) (hc : n ≤ cap) :
    Bs w (if cap = k then A else A.map (·.add k)) (n - k) (xs.drop k) := by
  have := Rd.drop h hk hc
  rw [Nat.mul_one, bvs_drop] at this
  exact this
theorem Bs.take {w : World} {A : Option Addr} {n : Nat} {xs : List UInt8} (h : Bs w A n xs) {k : Nat} (hk : k ≤ n) :
    Bs w A k (xs.take k) := by
  have := Rd.take h hk
  rw [Nat.mul_one, bvs_take] at this
  exact this
theorem Bs.below {w w' : World} {A : Option Addr} {n : Nat} {xs : List UInt8} (h : Bs w A n xs) (hb : Below w.heap.size w w') : Bs w' A n xs := Rd.below h hb
theorem Bs.alloc {w : World} {A : Option Addr} {n : Nat} {xs : List UInt8} (h : Bs w A n xs) (o : Obj) : Bs (w.alloc o) A n xs := Rd.alloc h o
/-- The slice value '.slice A n _' reads in w as slices of bytes. -/
def Bss (w : World) (A : Option Addr) (n : Nat) (xss : List (List UInt8)) : Prop :=
  n = xss.length ∧ ∀ (j : Nat) (h : j < xss.length), ∃ b o A' n' c', A = some ⟨b, o, none⟩ ∧ w.cell? ⟨b, o + j, none⟩ = some (.slice A' n' c') ∧ n' ≤ c' ∧ c' ≤ 9223372036854775807 ∧ Bs w A' n' (xss[j]'h)
theorem Bss.below {w w' : World} {A : Option Addr} {n : Nat} {xss : List (List UInt8)} (h : Bss w A n xss) (hb : Below w.heap.size w w') : Bss w' A n xss :=
  ⟨h.1, fun j hj => by
    obtain ⟨b, o, A', n', c', e, hc, h1, h2, h3⟩ := h.2 j hj
    exact ⟨b, o, A', n', c', e, (hb.cell (cell_lt hc)).trans hc, h1, h2, h3.below hb⟩⟩
/-- A new block reads as its cells. -/
theorem Rd.new (w : World) (C : Array Value) (t : TypeId) (fr : Nat × Nat) {sz n : Nat} (h : C.size = n * sz) : Rd (w.alloc (.cells C t fr)) (some ⟨w.heap.size, 0, none⟩) sz n C.toList :=
  ⟨by simpa using h, fun j u hu => ⟨_, _, rfl, by
    rw [Nat.zero_add]
    have hh : (w.alloc (.cells C t fr)).heap[w.heap.size]? = some (.cells C t fr) := heap_alloc_new w _
    unfold World.cell?
    simp only [hh]
    simpa using hu⟩⟩
theorem Bs.new (w : World) (xs : List UInt8) (t : TypeId) (fr : Nat × Nat) : Bs (w.alloc (.cells (bvs xs).toArray t fr)) (some ⟨w.heap.size, 0, none⟩) xs.length xs := by
  have := Rd.new w (bvs xs).toArray t fr (sz := 1) (n := xs.length) (by simp [bvs])
  simpa [Bs] using this
/-- Two rows of bytes, and the row of the two: the parts of a variadic call. -/
theorem Bss.of2 {w : World} {A1 A2 : Option Addr} {n1 c1 n2 c2 : Nat} {xs ys : List UInt8} (h1 : Bs w A1 n1 xs) (h2 : Bs w A2 n2 ys) (b1 : n1 ≤ c1) (m1 : c1 ≤ 9223372036854775807) (b2 : n2 ≤ c2) (m2 : c2 ≤ 9223372036854775807) (t : TypeId) :
    Bss (w.alloc (.cells #[.slice A1 n1 c1, .slice A2 n2 c2] t)) (some ⟨w.heap.size, 0, none⟩) 2 [xs, ys] := by
  have hn := Rd.new w #[.slice A1 n1 c1, .slice A2 n2 c2] t (0, 0) (sz := 1) (n := 2) rfl
  refine ⟨rfl, fun j hj => ?_⟩
  match j, hj with
  | 0, _ => obtain ⟨b, o, e, hc⟩ := hn.2 0 _ rfl; exact ⟨b, o, _, _, _, e, hc, b1, m1, h1.alloc _⟩
  | 1, _ => obtain ⟨b, o, e, hc⟩ := hn.2 1 _ rfl; exact ⟨b, o, _, _, _, e, hc, b2, m2, h2.alloc _⟩
theorem Bss.of1 {w : World} {A1 : Option Addr} {n1 c1 : Nat} {xs : List UInt8} (h1 : Bs w A1 n1 xs) (b1 : n1 ≤ c1) (m1 : c1 ≤ 9223372036854775807) (t : TypeId) :
    Bss (w.alloc (.cells #[.slice A1 n1 c1] t)) (some ⟨w.heap.size, 0, none⟩) 1 [xs] := by
  have hn := Rd.new w #[.slice A1 n1 c1] t (0, 0) (sz := 1) (n := 1) rfl
  refine ⟨rfl, fun j hj => ?_⟩
  match j, hj with
  | 0, _ => obtain ⟨b, o, e, hc⟩ := hn.2 0 _ rfl; exact ⟨b, o, _, _, _, e, hc, b1, m1, h1.alloc _⟩
theorem Bs.nil {w : World} {A : Option Addr} : Bs w A 0 [] := Rd.nil

/-! ### append onto a row of the call's own; the source is nil, empty or not -/
section
variable {P : Program}
theorem run_app (w : World) (base : Nat) (t ty e : TypeId) (i : TypeInfo) (z : Value) (size bytes : Nat) (ht : P.underlying t = some (.slice e)) (hi : P.info? e = some i) (hz : i.zero = some z)
    (hsize : i.size = size) (hby : i.bytes = bytes) (hzs : z.cells.size = size) (hsz : 0 < size)
    (v : Value) (n : Nat) (xs : List Value) (hown : w.ownsRow base e size v n xs)
    (A : Option Addr) (m c : Nat) (news : List Value) (hA : A = none → m = 0) (hr : Rd w A size m news) (h1 : ∀ u ∈ news, u.oneCell' = true)
    (h63 : n + m ≤ maxLen) (hbytes : (n + m) * bytes ≤ 140737488355328) (hbase : base ≤ w.heap.size) :
    ∃ v' w', (Builtin.append_ #[t, t] ty #[v, .slice A m c]).run P w = .ok v' w' ∧ w'.ownsRow base e size v' (n + m) (xs ++ news) ∧ w.grownBy w' v.ownBlock ∧
      (v'.ownBlock = v.ownBlock ∨ v'.ownBlock = some w.heap.size) := by
  cases A with
  | none =>
    have hm := hA rfl
    subst hm
    have hn : news = [] := List.eq_nil_of_length_eq_zero (by simpa using hr.1)
    subst hn
    refine ⟨v, w, ?_, by simpa using hown, World.grownBy.refl w _, .inl rfl⟩
    rcases hown.2 with ⟨rfl, rfl⟩ | ⟨g, cap, cur, rfl, _, _, hnc, _⟩
    · simp [Builtin.append_, run_underlying ht, sizeOf, typeInfo, hi, Builtin.lenOf, Builtin.firstCells]
    · simp [Builtin.append_, run_underlying ht, sizeOf, typeInfo, hi, Builtin.lenOf, Builtin.firstCells, hnc, storeCells]
  | some ad =>
    have hcells : ∀ j u, news[j]? = some u → w.cell? (ad.add j) = some u := by
      intro j u hu
      obtain ⟨b, o, e, hc⟩ := hr.2 j u hu
      injection e with e
      subst e
      unfold Addr.add
      by_cases h0 : j = 0
      · subst h0; simpa using hc
      · rw [if_neg h0]; exact hc
    obtain ⟨v', w', hrun, h2, h3, _, h5⟩ := run_append_own_at (P := P) w base t ty e i z size bytes ht hi hz hsize hby hzs hsz v n xs hown ad m c news hr.1 hcells h1 h63 hbytes hbase
    exact ⟨v', w', hrun, h2, h3, h5⟩

theorem wp_app (w : World) {o : Oper} {a : Act} {K : Act → World → Prop} {Q : Exit → Act → World → Prop} (s x : Operand) (t : TypeId)
    (ho : o.op = .call { callee := .builtin .append, args := #[s, x], argTypes := #[t, t] })
    (base : Nat) (e : TypeId) (i : TypeInfo) (z : Value) (size bytes : Nat) (ht : P.underlying t = some (.slice e)) (hi : P.info? e = some i) (hz : i.zero = some z)
    (hsize : i.size = size) (hby : i.bytes = bytes) (hzs : z.cells.size = size) (hsz : 0 < size)
    (v : Value) (n : Nat) (xs : List Value) (hs : a.eval s = v) (hown : w.ownsRow base e size v n xs)
    (A : Option Addr) (m c : Nat) (news : List Value) (hx : a.eval x = .slice A m c) (hA : A = none → m = 0) (hr : Rd w A size m news) (h1 : ∀ u ∈ news, u.oneCell' = true)
    (h63 : n + m ≤ maxLen) (hbytes : (n + m) * bytes ≤ 140737488355328) (hbase : base ≤ w.heap.size)
    (h : ∀ v' w', w'.ownsRow base e size v' (n + m) (xs ++ news) → w.grownBy w' v.ownBlock → (v'.ownBlock = v.ownBlock ∨ v'.ownBlock = some w.heap.size) → K (a.put o.dst v') w') : o.wp P a w K Q := by
  obtain ⟨v', w', hrun, h2, h3, h4⟩ := run_app (P := P) w base t o.type e i z size bytes ht hi hz hsize hby hzs hsz v n xs hown A m c news hA hr h1 h63 hbytes hbase
  unfold Oper.wp execOp
  simp only [ho, resolve, invoke, builtin, Sem.run_bind, Sem.run_pure, Result.andThen_ok, List.map_toArray, List.map_cons, List.map_nil, hs, hx, hrun]
  exact h v' w' h2 h3 h4

theorem wpList_app (w : World) {ops : Array Oper} {rest : List Oper} {o : Oper} {a : Act} {Q : Exit → Act → World → Prop} (hgd : o.guard = none) (s x : Operand) (t : TypeId)
    (ho : o.op = .call { callee := .builtin .append, args := #[s, x], argTypes := #[t, t] })
    (base : Nat) (e : TypeId) (i : TypeInfo) (z : Value) (size bytes : Nat) (ht : P.underlying t = some (.slice e)) (hi : P.info? e = some i) (hz : i.zero = some z)
    (hsize : i.size = size) (hby : i.bytes = bytes) (hzs : z.cells.size = size) (hsz : 0 < size)
    (v : Value) (n : Nat) (xs : List Value) (hs : a.eval s = v) (hown : w.ownsRow base e size v n xs)
    (A : Option Addr) (m c : Nat) (news : List Value) (hx : a.eval x = .slice A m c) (hA : A = none → m = 0) (hr : Rd w A size m news) (h1 : ∀ u ∈ news, u.oneCell' = true)
    (h63 : n + m ≤ maxLen) (hbytes : (n + m) * bytes ≤ 140737488355328) (hbase : base ≤ w.heap.size)
    (h : ∀ v' w', w'.ownsRow base e size v' (n + m) (xs ++ news) → w.grownBy w' v.ownBlock → (v'.ownBlock = v.ownBlock ∨ v'.ownBlock = some w.heap.size) → wpList P ops Q rest (a.put o.dst v') w') : wpList P ops Q (o :: rest) a w :=
  wpList_plain hgd fun _ hK => wp_app w s x t ho base e i z size bytes ht hi hz hsize hby hzs hsz v n xs hs hown A m c news hx hA hr h1 h63 hbytes hbase fun v' w' h2 h3 h4 => hK _ _ (h v' w' h2 h3 h4)
end

/-- What is owned is read. -/
theorem rd_own {w : World} {base : Nat} {e : TypeId} {size : Nat} {A : Option Addr} {n c : Nat} {xs : List Value} (h : w.ownsRow base e size (.slice A n c) n xs) : Rd w A size n xs := by
  refine ⟨h.1, fun j u hu => ?_⟩
  have hl := (List.getElem?_eq_some_iff.1 hu).1
  rcases h.2 with ⟨_, h0⟩ | ⟨g, cap, cur, hv, _, hh, _, _, hcs, hx⟩
  · rw [h.1, h0] at hl; omega
  · injection hv with hA _ _
    refine ⟨g, 0, hA, ?_⟩
    rw [Nat.zero_add]
    unfold World.cell?
    simp only [hh]
    rw [← hx] at hu
    rw [List.getElem?_take] at hu
    split at hu
    · simpa using hu
    · cases hu
theorem bs_own {w : World} {base : Nat} {e : TypeId} {A : Option Addr} {n c : Nat} {xs : List UInt8} (h : w.ownsRow base e 1 (.slice A n c) n (bvs xs)) : Bs w A n xs := rd_own h
theorem bvs_one (xs : List UInt8) : ∀ u ∈ bvs xs, u.oneCell' = true := by
  intro u hu
  obtain ⟨c, _, rfl⟩ := List.mem_map.1 hu
  rfl
/-- The form of an owned row. -/
theorem own_form {w : World} {base : Nat} {e : TypeId} {size : Nat} {v : Value} {n : Nat} {xs : List Value} (h : w.ownsRow base e size v n xs) :
    ∃ A c, v = .slice A n c ∧ n ≤ c ∧ c ≤ maxLen ∧ (A = none → n = 0 ∧ c = 0) := by
  rcases h.2 with ⟨rfl, rfl⟩ | ⟨g, cap, cur, rfl, _, _, h1, h2, _⟩
  · exact ⟨none, 0, rfl, Nat.le_refl _, Nat.zero_le _, fun _ => ⟨rfl, rfl⟩⟩
  · exact ⟨_, _, rfl, h1, h2, fun h => by cases h⟩

theorem foldl_push (xs : List UInt8) : ∀ (s : ByteArray), (xs.map fun c => (c.toNat : Int)).foldl (fun r n => r.push (UInt8.ofNat n.toNat)) s = ⟨(s.data.toList ++ xs).toArray⟩ := by
  induction xs with
  | nil => intro s; simp
  | cons c cs ih =>
    intro s
    simp only [List.map_cons, List.foldl_cons]
    rw [ih]
    simp [ByteArray.push]
/-- 'string(b)': the string of the bytes. -/
theorem run_str {P : Program} {w : World} {A : Option Addr} {n : Nat} {xs : List UInt8} (h : Bs w A n xs) (hA : A = none → n = 0) (src dst e : TypeId)
    (hs : P.underlying src = some (.slice e)) (he : P.underlying e = some (.int .u8)) (hd : P.underlying dst = some .string) (c : Nat) :
    (convert src dst (.slice A n c)).run P w = .ok (.string ⟨xs.toArray⟩) w := by
  rw [run_convert_bytes_string w src dst e A n c hs he hd]
  cases A with
  | none =>
    have h0 := hA rfl
    have hl := h.len
    have : xs = [] := List.eq_nil_of_length_eq_zero (by omega)
    subst this
    rfl
  | some a =>
    have hcells : (loadCells a n).run P w = .ok ((xs.map fun c => (c.toNat : Int)).map (Value.int .u8)).toArray w := by
      have := run_loadCells_list (P := P) w a ((xs.map fun c => (c.toNat : Int)).map (Value.int .u8)) (fun j v hj => by
        have hj' : (bvs xs)[j]? = some v := by simpa [bvs, bv, Function.comp_def] using hj
        obtain ⟨b, o, e', hc⟩ := h.2 j v hj'
        injection e' with e'
        subst e'
        unfold Addr.add
        by_cases h0 : j = 0
        · subst h0; simpa using hc
        · rw [if_neg h0]; exact hc)
      rw [h.len]
      simpa using this
    rw [run_bytesToString w a n c _ hcells, foldl_push]
    rfl

/-- A new block of a literal's is owned. -/
theorem own_new (w : World) (base : Nat) (C : Array Value) (e : TypeId) {size n : Nat} (h : C.size = n * size) (hb : base ≤ w.heap.size) (hn : n ≤ maxLen) :
    (w.alloc (.cells C e)).ownsRow base e size (.slice (some ⟨w.heap.size, 0, none⟩) n n) n C.toList :=
  ⟨by simpa using h, .inr ⟨_, n, C, rfl, hb, heap_alloc_new w _, Nat.le_refl _, hn, h, by rw [← h]; exact List.take_of_length_le (by simp)⟩⟩
theorem own_nil (w : World) (base : Nat) (e : TypeId) (size : Nat) : w.ownsRow base e size (.slice none 0 0) 0 [] := ⟨by simp, .inl ⟨rfl, rfl⟩⟩

theorem below_drewN {B : Nat} {a w : World} (h : Below B a w) (n : Nat) : Below B a (w.drewN n) := ⟨h.os, h.tape, h.output, h.size, h.block⟩
theorem Bs.drew {w : World} {A : Option Addr} {n : Nat} {xs : List UInt8} (h : Bs w A n xs) : Bs w.drew A n xs := h
theorem Bs.drewN {w : World} {A : Option Addr} {n : Nat} {xs : List UInt8} (h : Bs w A n xs) (k : Nat) : Bs (w.drewN k) A n xs := h

theorem own_keep {w w' : World} {base : Nat} {e : TypeId} {size : Nat} {v : Value} {n : Nat} {xs : List Value} (h : w.ownsRow base e size v n xs) (hb : Below w.heap.size w w') : w'.ownsRow base e size v n xs := by
  have hlt := h.lt
  refine ⟨h.1, ?_⟩
  rcases h.2 with h2 | ⟨g, cap, cur, hv, hg, hh, r⟩
  · exact Or.inl h2
  · refine Or.inr ⟨g, cap, cur, hv, hg, ?_, r⟩
    subst hv
    rw [hb.block g (hlt g rfl).2]
    exact hh
/-- A chain of frames. -/
theorem below_step {B : Nat} {a b c : World} (h : Below B a b) (k : Below b.heap.size b c) (hB : B ≤ a.heap.size) : Below B a c := h.trans (k.mono (Nat.le_trans hB h.size))

theorem Bss.drew {w : World} {A : Option Addr} {n : Nat} {xss : List (List UInt8)} (h : Bss w A n xss) : Bss w.drew A n xss := h
theorem Bss.alloc {w : World} {A : Option Addr} {n : Nat} {xss : List (List UInt8)} (h : Bss w A n xss) (o : Obj) : Bss (w.alloc o) A n xss :=
  h.below ((Below.refl _ _).alloc (Nat.le_refl _) _)
/-- The row of one part, wherever it lies. -/
theorem Bss.row1 {w : World} {g : Nat} {A1 : Option Addr} {n1 c1 : Nat} {xs : List UInt8} {t : TypeId} (hg : g = w.heap.size) (h1 : Bs w A1 n1 xs) (b1 : n1 ≤ c1) (m1 : c1 ≤ 9223372036854775807) :
    Bss (w.alloc (.cells #[.slice A1 n1 c1] t)) (some ⟨g, 0, none⟩) 1 [xs] := by
  subst hg; exact Bss.of1 h1 b1 m1 t
theorem Bss.of3 {w : World} {A1 A2 A3 : Option Addr} {n1 c1 n2 c2 n3 c3 : Nat} {xs ys zs : List UInt8} {t : TypeId} {g : Nat} (hg : g = w.heap.size) (h1 : Bs w A1 n1 xs) (h2 : Bs w A2 n2 ys) (h3 : Bs w A3 n3 zs)
    (b1 : n1 ≤ c1) (m1 : c1 ≤ 9223372036854775807) (b2 : n2 ≤ c2) (m2 : c2 ≤ 9223372036854775807) (b3 : n3 ≤ c3) (m3 : c3 ≤ 9223372036854775807) :
    Bss (w.alloc (.cells #[.slice A1 n1 c1, .slice A2 n2 c2, .slice A3 n3 c3] t)) (some ⟨g, 0, none⟩) 3 [xs, ys, zs] := by
  subst hg
  have hn := Rd.new w #[.slice A1 n1 c1, .slice A2 n2 c2, .slice A3 n3 c3] t (0, 0) (sz := 1) (n := 3) rfl
  refine ⟨rfl, fun j hj => ?_⟩
  match j, hj with
  | 0, _ => obtain ⟨b, o, e, hc⟩ := hn.2 0 _ rfl; exact ⟨b, o, _, _, _, e, hc, b1, m1, h1.alloc _⟩
  | 1, _ => obtain ⟨b, o, e, hc⟩ := hn.2 1 _ rfl; exact ⟨b, o, _, _, _, e, hc, b2, m2, h2.alloc _⟩
  | 2, _ => obtain ⟨b, o, e, hc⟩ := hn.2 2 _ rfl; exact ⟨b, o, _, _, _, e, hc, b3, m3, h3.alloc _⟩
end Go.Proofs.Ytpjbeodnalgkfaa
