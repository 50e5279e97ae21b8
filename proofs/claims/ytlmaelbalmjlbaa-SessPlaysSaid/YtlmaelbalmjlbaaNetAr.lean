/- Layer 15: arguments: messages, acts, lists of both. -/
import Derived.Test.YtlmaelbalmjlbaaNetA
import Derived.Test.YtlmaelbalmjlbaaLaw
import Derived.Test.YtlmaelbalmjlbaaShp
set_option linter.all false
namespace Go.Proofs.Ytlmaelbalmjlbaa
open Go.ChangeShapes Go.WideShapes Go.ChangeAt Go.RowKit
namespace Net

theorem own_ : ownKnob Try.prog.godebug = none := by kernel_rfl
theorem laidOut_ : laidOutB Try.prog = true := by kernel_rfl
def iShp : Shp Int := Shp.int .i64 (-9223372036854775808) 9223372036854775807
def kShp : Shp Nat := Shp.nat .u8 256
abbrev bShp : Shp (List UInt8) := Shp.slice Shp.u8 1
theorem ops_int : Opens Try.prog 3 iShp := opens_int _ _ Try.underlying3 (by kernel_rfl) wf_i64
theorem ops_u8 : Opens Try.prog 5 Shp.u8 := opens_u8 Try.underlying5 (by kernel_rfl)
theorem ops_kind : Opens Try.prog 5 kShp := opens_nat 256 Try.underlying5 (by kernel_rfl) wf_u8
theorem ops_bytes : Opens Try.prog 34 bShp := opens_slice 1 Try.underlying34 (by kernel_rfl) (by kernel_rfl) (by decide) ops_u8
theorem ops_bytess : Opens Try.prog 28 (Shp.slice bShp 24) := opens_slice 24 Try.underlying28 (by kernel_rfl) (by kernel_rfl) (by decide) ops_bytes
/-! ### a message -/
abbrev MsV : Type := Int × Int × Int × Int × Int × Int × List UInt8 × Unit
def msShp : Shp MsV := Shp.agg (Shp.pair iShp (Shp.pair iShp (Shp.pair iShp (Shp.pair iShp (Shp.pair iShp (Shp.pair iShp (Shp.pair bShp Shp.unit)))))))
def toMs (v : MsV) : Ms := ⟨v.1, v.2.1, v.2.2.1, v.2.2.2.1, v.2.2.2.2.1, v.2.2.2.2.2.1, v.2.2.2.2.2.2.1⟩
theorem ops_ms : Opens Try.prog 36 msShp :=
  opens_struct Try.underlying36 (by kernel_rfl) (opensF_cons ops_int rfl (opensF_cons ops_int rfl (opensF_cons ops_int rfl (opensF_cons ops_int rfl (opensF_cons ops_int rfl (opensF_cons ops_int rfl (opensF_cons ops_bytes rfl (opensF_nil _))))))))
theorem ms_is {w : World} {cs : List Value} {v : MsV} (h : msShp.R w cs v) : ∃ X n c, cs = (ma (toMs v) (.slice X n c)).toList ∧ Mdt w (toMs v) X n c := by
  obtain ⟨c1, r1, rfl, hl1, ⟨h1, b1⟩, c2, r2, rfl, hl2, ⟨h2, b2⟩, c3, r3, rfl, hl3, ⟨h3, b3⟩, c4, r4, rfl, hl4, ⟨h4, b4⟩, c5, r5, rfl, hl5, ⟨h5, b5⟩, c6, r6, rfl, hl6, ⟨h6, b6⟩, c7, r7, rfl, hl7, h7, h8⟩ := h
  have h8 : r7 = [] := h8
  subst h1 h2 h3 h4 h5 h6 h8
  have h7' := h7
  obtain ⟨X, c, rfl, -⟩ := h7'
  obtain ⟨k1, k2, k3, k4⟩ := bs_shp h7
  exact ⟨X, _, c, rfl, ⟨k1, k3, k2, by omega, by have := k1.len; omega, ⟨b1, b2, b3, b4, b5, b6⟩⟩⟩
theorem ms_arr {w : World} {cs : Array Value} {v : MsV} (h : msShp.R w cs.toList v) : ∃ X n c, cs = ma (toMs v) (.slice X n c) ∧ Mdt w (toMs v) X n c := by
  obtain ⟨X, n, c, e, hm⟩ := ms_is h
  exact ⟨X, n, c, Array.toList_inj.1 e, hm⟩
/-! ### an act -/
abbrev AcV : Type := Nat × Int × Int × UInt8 × List (List UInt8) × Unit
def acShp : Shp AcV := Shp.agg (Shp.pair kShp (Shp.pair iShp (Shp.pair iShp (Shp.pair Shp.u8 (Shp.pair (Shp.slice bShp 24) Shp.unit)))))
structure Act where
  kd : Nat
  i : Int
  at_ : Int
  y : UInt8
  b : List (List UInt8)
def toAc (v : AcV) : Act := ⟨v.1, v.2.1, v.2.2.1, v.2.2.2.1, v.2.2.2.2.1⟩
abbrev aa (a : Act) (v : Value) : Array Value := #[.int .u8 (a.kd : Int), .int .i64 a.i, .int .i64 a.at_, .int .u8 (a.y.toNat : Int), v]
structure Adt (w : World) (a : Act) (X : Option Addr) (n c : Nat) : Prop where
  kd : a.kd < 256
  i : I64 a.i
  at_ : I64 a.at_
  bs : Bss w X n a.b
  le : n ≤ c
  cap : c ≤ 9223372036854775807
  nil : X = none → n = 0 ∧ c = 0
  far : ∀ d ∈ a.b, d.length ≤ 140737488351232
theorem Adt.below {w w' : World} {a : Act} {X : Option Addr} {n c : Nat} (h : Adt w a X n c) (hb : Below w.heap.size w w') : Adt w' a X n c := ⟨h.kd, h.i, h.at_, h.bs.below hb, h.le, h.cap, h.nil, h.far⟩
theorem ac_is {w : World} {cs : List Value} {v : AcV} (h : acShp.R w cs v) : ∃ X n c, cs = (aa (toAc v) (.slice X n c)).toList ∧ Adt w (toAc v) X n c := by
  obtain ⟨c1, r1, rfl, hl1, ⟨h1, b1⟩, c2, r2, rfl, hl2, ⟨h2, b2⟩, c3, r3, rfl, hl3, ⟨h3, b3⟩, c4, r4, rfl, hl4, h4, c5, r5, rfl, hl5, h5, h6⟩ := h
  have h6 : r5 = [] := h6
  have h4 : c4 = _ := h4
  subst h1 h2 h3 h4 h6
  have h5' := h5
  obtain ⟨X, c, rfl, -⟩ := h5'
  obtain ⟨k1, k2, k3, k4, k5⟩ := bss_shp h5
  exact ⟨X, _, c, rfl, ⟨b1, b2, b3, k1, k2, k4, k3, k5⟩⟩
theorem ac_arr {w : World} {cs : Array Value} {v : AcV} (h : acShp.R w cs.toList v) : ∃ X n c, cs = aa (toAc v) (.slice X n c) ∧ Adt w (toAc v) X n c := by
  obtain ⟨X, n, c, e, hm⟩ := ac_is h
  exact ⟨X, n, c, Array.toList_inj.1 e, hm⟩
/-! ### lists -/
theorem ops_mss : Opens Try.prog 42 (Shp.slice msShp 72) := opens_slice 72 Try.underlying42 (by kernel_rfl) (by kernel_rfl) (by decide) ops_ms
/-- A slice of acts, and of messages. -/
structure Acs (w : World) (A : Option Addr) (n : Nat) (l : List Act) : Prop where
  len : n = l.length
  at_ : ∀ k, k < n → ∃ b o a X m c, A = some ⟨b, o, none⟩ ∧ l[k]? = some a ∧ Adt w a X m c ∧
    w.cell? ⟨b, o + k * 5, none⟩ = some (.int .u8 (a.kd : Int)) ∧ w.cell? ⟨b, o + k * 5 + 1, none⟩ = some (.int .i64 a.i) ∧ w.cell? ⟨b, o + k * 5 + 2, none⟩ = some (.int .i64 a.at_) ∧ w.cell? ⟨b, o + k * 5 + 3, none⟩ = some (.int .u8 (a.y.toNat : Int)) ∧ w.cell? ⟨b, o + k * 5 + 4, none⟩ = some (.slice X m c)
theorem Acs.below {w w' : World} {A : Option Addr} {n : Nat} {l : List Act} (h : Acs w A n l) (hb : Below w.heap.size w w') : Acs w' A n l :=
  ⟨h.len, fun k hk => by
    obtain ⟨b, o, a, X, m, c, e, hl, hA, c0, c1, c2, c3, c4⟩ := h.at_ k hk
    exact ⟨b, o, a, X, m, c, e, hl, hA.below hb, (hb.cell (cell_lt c0)).trans c0, (hb.cell (cell_lt c1)).trans c1, (hb.cell (cell_lt c2)).trans c2, (hb.cell (cell_lt c3)).trans c3, (hb.cell (cell_lt c4)).trans c4⟩⟩
structure Mss (w : World) (A : Option Addr) (n : Nat) (l : List Ms) : Prop where
  len : n = l.length
  at_ : ∀ k, k < n → ∃ b o m X p c, A = some ⟨b, o, none⟩ ∧ l[k]? = some m ∧ Mdt w m X p c ∧
    w.cell? ⟨b, o + k * 7, none⟩ = some (.int .i64 m.fr) ∧ w.cell? ⟨b, o + k * 7 + 1, none⟩ = some (.int .i64 m.to) ∧ w.cell? ⟨b, o + k * 7 + 2, none⟩ = some (.int .i64 m.k) ∧ w.cell? ⟨b, o + k * 7 + 3, none⟩ = some (.int .i64 m.ep) ∧ w.cell? ⟨b, o + k * 7 + 4, none⟩ = some (.int .i64 m.sq) ∧ w.cell? ⟨b, o + k * 7 + 5, none⟩ = some (.int .i64 m.ac) ∧ w.cell? ⟨b, o + k * 7 + 6, none⟩ = some (.slice X p c)
theorem Mss.below {w w' : World} {A : Option Addr} {n : Nat} {l : List Ms} (h : Mss w A n l) (hb : Below w.heap.size w w') : Mss w' A n l :=
  ⟨h.len, fun k hk => by
    obtain ⟨b, o, a, X, m, c, e, hl, hA, c0, c1, c2, c3, c4, c5, c6⟩ := h.at_ k hk
    exact ⟨b, o, a, X, m, c, e, hl, hA.below hb, (hb.cell (cell_lt c0)).trans c0, (hb.cell (cell_lt c1)).trans c1, (hb.cell (cell_lt c2)).trans c2, (hb.cell (cell_lt c3)).trans c3, (hb.cell (cell_lt c4)).trans c4, (hb.cell (cell_lt c5)).trans c5, (hb.cell (cell_lt c6)).trans c6⟩⟩
theorem acs_of {w : World} {A : Option Addr} {n c : Nat} {l : List AcV} (h : (Shp.slice acShp 56).R w [.slice A n c] l) : Acs w A n (l.map toAc) ∧ n ≤ c ∧ c * 56 ≤ 140737488351232 := by
  obtain ⟨A', c', e, h1, h2, h3, h4, h5⟩ := h
  simp only [List.cons.injEq, Value.slice.injEq, and_true] at e
  obtain ⟨rfl, rfl, rfl⟩ := e
  refine ⟨⟨by simp, fun k hk => ?_⟩, h1, h3⟩
  obtain ⟨b, o, vs, rfl, hl, hc, hr⟩ := h5 k hk
  obtain ⟨X, m, c, rfl, hA⟩ := ac_is hr
  have e5 : acShp.n = 5 := rfl
  rw [e5] at hc
  exact ⟨b, o, toAc l[k], X, m, c, rfl, by rw [List.getElem?_map, List.getElem?_eq_getElem hk]; rfl, hA, hc 0 _ rfl, hc 1 _ rfl, hc 2 _ rfl, hc 3 _ rfl, hc 4 _ rfl⟩
theorem mss_of {w : World} {A : Option Addr} {n c : Nat} {l : List MsV} (h : (Shp.slice msShp 72).R w [.slice A n c] l) : Mss w A n (l.map toMs) ∧ n ≤ c ∧ c * 72 ≤ 140737488351232 := by
  obtain ⟨A', c', e, h1, h2, h3, h4, h5⟩ := h
  simp only [List.cons.injEq, Value.slice.injEq, and_true] at e
  obtain ⟨rfl, rfl, rfl⟩ := e
  refine ⟨⟨by simp, fun k hk => ?_⟩, h1, h3⟩
  obtain ⟨b, o, vs, rfl, hl, hc, hr⟩ := h5 k hk
  obtain ⟨X, m, c, rfl, hA⟩ := ms_is hr
  have e7 : msShp.n = 7 := rfl
  rw [e7] at hc
  exact ⟨b, o, toMs l[k], X, m, c, rfl, by rw [List.getElem?_map, List.getElem?_eq_getElem hk]; rfl, hA, hc 0 _ rfl, hc 1 _ rfl, hc 2 _ rfl, hc 3 _ rfl, hc 4 _ rfl, hc 5 _ rfl, hc 6 _ rfl⟩
end Net
end Go.Proofs.Ytlmaelbalmjlbaa
