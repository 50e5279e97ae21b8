/- Layer 16: arguments: acts, what ends and the network do, lists of both. -/
import Derived.Test.YtlmaelbalmjlbaaSesH
import Derived.Test.YtlmaelbalmjlbaaNetAr
set_option linter.all false
namespace Go.Proofs.Ytlmaelbalmjlbaa
open Go.ChangeShapes Go.WideShapes Go.ChangeAt Go.RowKit
namespace Ses
open Net
theorem opens_arr3 {P : Program} {t : TypeId} {α : Type} {s : Shp α} {e : TypeId} (ht : P.underlying t = some (.array 3 e)) (hc : P.cellsOf t = s.n + (s.n + (s.n + 0))) (hs : Opens P e s) : Opens P t (Shp.agg (Shp.pair s (Shp.pair s (Shp.pair s Shp.unit)))) :=
  ⟨hc, fun H enc w base held fuel cs x h hw => by
    obtain ⟨xs, m, _, rfl, hl, hxl, hall⟩ := DataW.trod_array ht h
    simp only [DataW.weights, ht] at hw
    match xs, hxl with
    | [x0, x1, x2], _ =>
      have h0 := hall 0 (by omega)
      have h1 := hall 1 (by omega)
      have h2 := hall 2 (by omega)
      simp only [hs.1, Nat.zero_mul, List.drop_zero, Nat.one_mul, List.getElem?_cons_zero, List.getElem?_cons_succ] at h0 h1 h2
      obtain ⟨a0, r0, b0⟩ := hs.2 H enc w base held m _ _ h0 (fun q hq => hw q (weightsAll_in (by simp) q hq))
      obtain ⟨a1, r1, b1⟩ := hs.2 H enc w base held m _ _ h1 (fun q hq => hw q (weightsAll_in (by simp) q hq))
      obtain ⟨a2, r2, b2⟩ := hs.2 H enc w base held m _ _ h2 (fun q hq => hw q (weightsAll_in (by simp) q hq))
      rw [hc] at hl
      have e2 : (cs.drop (2 * s.n)).take s.n = (cs.drop s.n).drop s.n := by rw [List.drop_drop, List.take_of_length_le (by rw [List.length_drop]; omega)]; congr 1; omega
      rw [e2] at r2
      refine ⟨(a0, a1, a2, ()), ⟨cs.take s.n, cs.drop s.n, (List.take_append_drop _ _).symm, by rw [List.length_take]; omega, r0, (cs.drop s.n).take s.n, (cs.drop s.n).drop s.n, (List.take_append_drop _ _).symm, by rw [List.length_take, List.length_drop]; omega, r1, (cs.drop s.n).drop s.n, [], by rw [List.append_nil], by rw [List.length_drop, List.length_drop]; omega, r2, rfl⟩, ?_⟩
      simp only [Shp.agg, Shp.pair, Shp.unit, Rows.uptoBulk, List.map_cons, List.map_nil, Rows.uptoBulkAll]
      omega⟩
abbrev ThreeV : Type := Int × Int × Int × Unit
def threeShp : Shp ThreeV := Shp.agg (Shp.pair iShp (Shp.pair iShp (Shp.pair iShp Shp.unit)))
theorem ops_three : Opens Try.prog 22 threeShp := opens_arr3 Try.underlying22 (by kernel_rfl) ops_int
theorem three_arr {w : World} {cs : Array Value} {v : ThreeV} (h : threeShp.R w cs.toList v) : cs = #[.int .i64 v.1, .int .i64 v.2.1, .int .i64 v.2.2.1] ∧ I64 v.1 ∧ I64 v.2.1 ∧ I64 v.2.2.1 := by
  obtain ⟨c1, r1, e, hl1, ⟨h1, b1⟩, c2, r2, rfl, hl2, ⟨h2, b2⟩, c3, r3, rfl, hl3, ⟨h3, b3⟩, h4⟩ := h
  have h4 : r3 = [] := h4
  subst h1 h2 h3 h4
  exact ⟨Array.toList_inj.1 (by rw [e]; rfl), b1, b2, b3⟩
/-! ### an act -/
abbrev AcV : Type := Nat × List UInt8 × MsV × Int × Unit
def acShp : Shp AcV := Shp.agg (Shp.pair kShp (Shp.pair bShp (Shp.pair msShp (Shp.pair iShp Shp.unit))))
theorem ops_ac : Opens Try.prog 38 acShp :=
  opens_struct Try.underlying38 (by kernel_rfl) (opensF_cons ops_kind rfl (opensF_cons ops_bytes rfl (opensF_cons ops_ms rfl (opensF_cons ops_int rfl (opensF_nil _)))))
structure Act where
  kd : Nat
  d : List UInt8
  m : Ms
  ep : Int
def toAc (v : AcV) : Act := ⟨v.1, v.2.1, toMs v.2.2.1, v.2.2.2.1⟩
abbrev aa (a : Act) (u v : Value) : Array Value := #[.int .u8 (a.kd : Int), u, .int .i64 a.m.fr, .int .i64 a.m.to, .int .i64 a.m.k, .int .i64 a.m.ep, .int .i64 a.m.sq, .int .i64 a.m.ac, v, .int .i64 a.ep]
/-- Bytes that came in. -/
structure Din (w : World) (d : List UInt8) (Y : Option Addr) (n c : Nat) : Prop where
  bs : Bs w Y n d
  nil : Y = none → n = 0 ∧ c = 0
  le : n ≤ c
  cap : c ≤ 9223372036854775807
  far : n ≤ 140737488351300
theorem Din.below {w w' : World} {d : List UInt8} {Y : Option Addr} {n c : Nat} (h : Din w d Y n c) (hb : Below w.heap.size w w') : Din w' d Y n c := ⟨h.bs.below hb, h.nil, h.le, h.cap, h.far⟩
structure Adt (w : World) (a : Act) (Y : Option Addr) (k q : Nat) (X : Option Addr) (n c : Nat) : Prop where
  kd : a.kd < 256
  d : Din w a.d Y k q
  m : Mdt w a.m X n c
  ep : I64 a.ep
theorem Adt.below {w w' : World} {a : Act} {Y X : Option Addr} {k q n c : Nat} (h : Adt w a Y k q X n c) (hb : Below w.heap.size w w') : Adt w' a Y k q X n c := ⟨h.kd, h.d.below hb, h.m.below hb, h.ep⟩
theorem ac_is {w : World} {cs : List Value} {v : AcV} (h : acShp.R w cs v) : ∃ Y k q X n c, cs = (aa (toAc v) (.slice Y k q) (.slice X n c)).toList ∧ Adt w (toAc v) Y k q X n c := by
  obtain ⟨c1, r1, rfl, hl1, ⟨h1, b1⟩, c2, r2, rfl, hl2, h2, c3, r3, rfl, hl3, h3, c4, r4, rfl, hl4, ⟨h4, b4⟩, h5⟩ := h
  have h5 : r4 = [] := h5
  subst h1 h4 h5
  obtain ⟨X, n, c, rfl, hm⟩ := ms_is h3
  have h2' := h2
  obtain ⟨Y, q, rfl, -⟩ := h2'
  obtain ⟨k1, k2, k3, k4⟩ := bs_shp h2
  exact ⟨Y, _, q, X, n, c, rfl, b1, ⟨k1, k3, k2, by omega, by have := k1.len; omega⟩, hm, b4⟩
theorem ac_arr {w : World} {cs : Array Value} {v : AcV} (h : acShp.R w cs.toList v) : ∃ Y k q X n c, cs = aa (toAc v) (.slice Y k q) (.slice X n c) ∧ Adt w (toAc v) Y k q X n c := by
  obtain ⟨Y, k, q, X, n, c, e, hm⟩ := ac_is h
  exact ⟨Y, k, q, X, n, c, Array.toList_inj.1 e, hm⟩
theorem ops_acs : Opens Try.prog 23 (Shp.slice acShp 112) := opens_slice 112 Try.underlying23 (by kernel_rfl) (by kernel_rfl) (by decide) ops_ac
structure Acs (w : World) (A : Option Addr) (n : Nat) (l : List Act) : Prop where
  len : n = l.length
  at_ : ∀ i, i < n → ∃ b o a Y k q X p c, A = some ⟨b, o, none⟩ ∧ l[i]? = some a ∧ Adt w a Y k q X p c ∧
    ∀ j u, (aa a (.slice Y k q) (.slice X p c))[j]? = some u → w.cell? ⟨b, o + i * 10 + j, none⟩ = some u
theorem Acs.below {w w' : World} {A : Option Addr} {n : Nat} {l : List Act} (h : Acs w A n l) (hb : Below w.heap.size w w') : Acs w' A n l :=
  ⟨h.len, fun i hi => by
    obtain ⟨b, o, a, Y, k, q, X, p, c, e, hl, hA, hc⟩ := h.at_ i hi
    exact ⟨b, o, a, Y, k, q, X, p, c, e, hl, hA.below hb, fun j u hu => (hb.cell (cell_lt (hc j u hu))).trans (hc j u hu)⟩⟩
theorem acs_of {w : World} {A : Option Addr} {n c : Nat} {l : List AcV} (h : (Shp.slice acShp 112).R w [.slice A n c] l) : Acs w A n (l.map toAc) ∧ n ≤ c ∧ c * 112 ≤ 140737488351232 := by
  obtain ⟨A', c', e, h1, h2, h3, h4, h5⟩ := h
  simp only [List.cons.injEq, Value.slice.injEq, and_true] at e
  obtain ⟨rfl, rfl, rfl⟩ := e
  refine ⟨⟨by simp, fun k hk => ?_⟩, h1, h3⟩
  obtain ⟨b, o, vs, rfl, hl, hc, hr⟩ := h5 k hk
  obtain ⟨Y, p, q, X, m, c, rfl, hA⟩ := ac_is hr
  have e10 : acShp.n = 10 := rfl
  rw [e10] at hc
  exact ⟨b, o, toAc l[k], Y, p, q, X, m, c, rfl, by rw [List.getElem?_map, List.getElem?_eq_getElem hk]; rfl, hA, fun j u hu => hc j u (by simpa using hu)⟩
/-! ### what ends and the network do -/
abbrev DoV : Type := Nat × Int × Int × Int × UInt8 × List UInt8 × Unit
def doShp : Shp DoV := Shp.agg (Shp.pair kShp (Shp.pair iShp (Shp.pair iShp (Shp.pair iShp (Shp.pair Shp.u8 (Shp.pair bShp Shp.unit))))))
theorem ops_do : Opens Try.prog 58 doShp :=
  opens_struct Try.underlying58 (by kernel_rfl) (opensF_cons ops_kind rfl (opensF_cons ops_int rfl (opensF_cons ops_int rfl (opensF_cons ops_int rfl (opensF_cons ops_u8 rfl (opensF_cons ops_bytes rfl (opensF_nil _)))))))
structure Dod where
  kd : Nat
  side : Int
  i : Int
  at_ : Int
  y : UInt8
  d : List UInt8
def toDo (v : DoV) : Dod := ⟨v.1, v.2.1, v.2.2.1, v.2.2.2.1, v.2.2.2.2.1, v.2.2.2.2.2.1⟩
abbrev da (a : Dod) (v : Value) : Array Value := #[.int .u8 (a.kd : Int), .int .i64 a.side, .int .i64 a.i, .int .i64 a.at_, .int .u8 (a.y.toNat : Int), v]
structure Ddt (w : World) (a : Dod) (Y : Option Addr) (k q : Nat) : Prop where
  kd : a.kd < 256
  side : I64 a.side
  i : I64 a.i
  at_ : I64 a.at_
  d : Din w a.d Y k q
theorem Ddt.below {w w' : World} {a : Dod} {Y : Option Addr} {k q : Nat} (h : Ddt w a Y k q) (hb : Below w.heap.size w w') : Ddt w' a Y k q := ⟨h.kd, h.side, h.i, h.at_, h.d.below hb⟩
theorem do_is {w : World} {cs : List Value} {v : DoV} (h : doShp.R w cs v) : ∃ Y k q, cs = (da (toDo v) (.slice Y k q)).toList ∧ Ddt w (toDo v) Y k q := by
  obtain ⟨c1, r1, rfl, hl1, ⟨h1, b1⟩, c2, r2, rfl, hl2, ⟨h2, b2⟩, c3, r3, rfl, hl3, ⟨h3, b3⟩, c4, r4, rfl, hl4, ⟨h4, b4⟩, c5, r5, rfl, hl5, h5, c6, r6, rfl, hl6, h6, h7⟩ := h
  have h7 : r6 = [] := h7
  have h5 : c5 = _ := h5
  subst h1 h2 h3 h4 h5 h7
  have h6' := h6
  obtain ⟨Y, q, rfl, -⟩ := h6'
  obtain ⟨k1, k2, k3, k4⟩ := bs_shp h6
  exact ⟨Y, _, q, rfl, b1, b2, b3, b4, ⟨k1, k3, k2, by omega, by have := k1.len; omega⟩⟩
theorem ops_dos : Opens Try.prog 53 (Shp.slice doShp 64) := opens_slice 64 Try.underlying53 (by kernel_rfl) (by kernel_rfl) (by decide) ops_do
structure Dos (w : World) (A : Option Addr) (n : Nat) (l : List Dod) : Prop where
  len : n = l.length
  at_ : ∀ i, i < n → ∃ b o a Y k q, A = some ⟨b, o, none⟩ ∧ l[i]? = some a ∧ Ddt w a Y k q ∧
    ∀ j u, (da a (.slice Y k q))[j]? = some u → w.cell? ⟨b, o + i * 6 + j, none⟩ = some u
theorem Dos.below {w w' : World} {A : Option Addr} {n : Nat} {l : List Dod} (h : Dos w A n l) (hb : Below w.heap.size w w') : Dos w' A n l :=
  ⟨h.len, fun i hi => by
    obtain ⟨b, o, a, Y, k, q, e, hl, hA, hc⟩ := h.at_ i hi
    exact ⟨b, o, a, Y, k, q, e, hl, hA.below hb, fun j u hu => (hb.cell (cell_lt (hc j u hu))).trans (hc j u hu)⟩⟩
theorem dos_of {w : World} {A : Option Addr} {n c : Nat} {l : List DoV} (h : (Shp.slice doShp 64).R w [.slice A n c] l) : Dos w A n (l.map toDo) ∧ n ≤ c ∧ c * 64 ≤ 140737488351232 := by
  obtain ⟨A', c', e, h1, h2, h3, h4, h5⟩ := h
  simp only [List.cons.injEq, Value.slice.injEq, and_true] at e
  obtain ⟨rfl, rfl, rfl⟩ := e
  refine ⟨⟨by simp, fun k hk => ?_⟩, h1, h3⟩
  obtain ⟨b, o, vs, rfl, hl, hc, hr⟩ := h5 k hk
  obtain ⟨Y, p, q, rfl, hA⟩ := do_is hr
  have e6 : doShp.n = 6 := rfl
  rw [e6] at hc
  exact ⟨b, o, toDo l[k], Y, p, q, rfl, by rw [List.getElem?_map, List.getElem?_eq_getElem hk]; rfl, hA, fun j u hu => hc j u (by simpa using hu)⟩
end Ses
end Go.Proofs.Ytlmaelbalmjlbaa
