/- XStrT, XStrU, XStrX. -/
import Derived.Test.YtganoklclnbjkaaStrS
import Derived.Test.YtganoklclnbjkaaBloD
import Derived.Test.YtganoklclnbjkaaLaw
set_option linter.all false
namespace Go.Proofs.Ytganoklclnbjkaa
open Go.RowKit
namespace Str
open Blo (I64)
/-- The record of an op. -/
def recOp (o : BOp) : Rec := ⟨if o.kind = 1 then 2 else if o.kind = 2 then 3 else 0, 0, 0, 0, 0, o.off, o.len, o.data⟩
theorem enters_Clone (vs : Array Value) (w : World) : (callFunc 42 vs).run Try.prog w = .ok (.enter 42 vs) w := by go_simp
theorem k4 {w : World} {b : Nat} {t : TypeId} {o : BOp} {d : Value} (h : Blk w b t (oa o d)) : w.cell? ⟨b, 0, none⟩ = some (.int .i64 o.kind) ∧ w.cell? ⟨b, 1, none⟩ = some (.int .i64 o.off) ∧ w.cell? ⟨b, 2, none⟩ = some (.int .i64 o.len) ∧ w.cell? ⟨b, 3, none⟩ = some d :=
  ⟨h.cell rfl, h.cell rfl, h.cell rfl, h.cell rfl⟩
def RecA (w w' : World) (e : Ending) (o : BOp) : Prop := ∃ D cd, e = .returned (.agg (ra (recOp o) (.slice D o.data.length cd))) ∧ w'.ownsRow w.heap.size 62 1 (.slice D o.data.length cd) o.data.length (nvs o.data) ∧ Below w.heap.size w w'
section
variable (w : World)
end
end Str
end Go.Proofs.Ytganoklclnbjkaa

set_option linter.all false
namespace Go.Proofs.Ytganoklclnbjkaa
open Go.RowKit
namespace Str
open Blo (I64)
def tailR (n : Nat) : Rec := ⟨4, 0, 0, 0, 0, 0, (n : Int), []⟩
def bareR (h : Rec) : Rec := { h with d := [] }
def bldL (h : Rec) (ops : List BOp) : List Rec := bareR h :: (ops.map recOp ++ [tailR ops.length])
def bldE (h : Rec) (ops : List BOp) : Int := if h.k = 1 then (if mayB h = true then chkE (bldL h ops) else 1) else 1
/-- What Build answers. -/
def BuA (w w' : World) (e : Ending) (er : Int) (l : List Rec) : Prop :=
  ∃ (B : Option Addr) (m c : Nat) (L : List (Rec × Value)), e = .returned (.tuple #[.slice B m c, .int .i64 er]) ∧ Orl w' w.heap.size (.slice B m c) m L ∧ L.map Prod.fst = l ∧ Below w.heap.size w w'
def bldV (h : Rec) (ops : List BOp) : List Rec := if bldE h ops = 0 then bldL h ops else []
def BuB (w w' : World) (e : Ending) (h : Rec) (ops : List BOp) : Prop := BuA w w' e (bldE h ops) (bldV h ops)
theorem recOp_sm {w : World} {o : BOp} {X : Option Addr} {m c : Nat} (h : Blo.Dat w o X m c) : Sm (recOp o) := by
  have hz : ∀ z : Int, 0 ≤ z → z ≤ 3 → I64 z := fun z h0 h1 => by unfold I64; omega
  refine ⟨⟨?_, hz 0 (by omega) (by omega), hz 0 (by omega) (by omega), hz 0 (by omega) (by omega), hz 0 (by omega) (by omega), h.fit.off, h.fit.len⟩, h.ns.2, ?_⟩
  · unfold recOp
    dsimp only
    split
    · exact hz 2 (by omega) (by omega)
    · split
      · exact hz 3 (by omega) (by omega)
      · exact hz 0 (by omega) (by omega)
  · have h1 := h.by8
    have h2 := h.len
    unfold recOp
    dsimp only
    omega
theorem bare_sm {h : Rec} (hf : FitR h) : Sm (bareR h) := ⟨⟨hf.k, hf.sh, hf.sn, hf.ba, hf.ma, hf.off, hf.len⟩, by intro x hx; simp [bareR] at hx, by simp [bareR]⟩
theorem tail_sm {n : Nat} (hn : n ≤ 2000000) : Sm (tailR n) := by
  have hz : ∀ z : Int, 0 ≤ z → z ≤ 2000000 → I64 z := fun z h0 h1 => by unfold I64; omega
  exact ⟨⟨hz 4 (by omega) (by omega), hz 0 (by omega) (by omega), hz 0 (by omega) (by omega), hz 0 (by omega) (by omega), hz 0 (by omega) (by omega), hz 0 (by omega) (by omega), hz (n : Int) (by omega) (by omega)⟩, by intro x hx; simp [tailR] at hx, by simp [tailR]⟩
section
variable (w : World)
end
end Str
end Go.Proofs.Ytganoklclnbjkaa

set_option linter.all false
namespace Go.Proofs.Ytganoklclnbjkaa
open Go.ChangeShapes Go.WideShapes Go.ChangeAt Go.RowKit
namespace Str
/-! ### arguments -/
abbrev OpV : Type := Int × Int × Int × List Nat × Unit
def iShp : Shp Int := Shp.int .i64 (-9223372036854775808) 9223372036854775807
abbrev nShp : Shp Nat := Shp.nat .u64 18446744073709551616
abbrev nsShp : Shp (List Nat) := Shp.slice nShp 8
def opShp : Shp OpV := Shp.agg (Shp.pair iShp (Shp.pair iShp (Shp.pair iShp (Shp.pair nsShp Shp.unit))))
def toOp (v : OpV) : BOp := ⟨v.1, v.2.1, v.2.2.1, v.2.2.2.1⟩
theorem ns_of {w : World} {A : Option Addr} {n c : Nat} {l : List Nat} (h : nsShp.R w [.slice A n c] l) : Ns w A n l ∧ n ≤ c ∧ (A = none → n = 0 ∧ c = 0) ∧ c ≤ 9223372036854775807 ∧ c * 8 ≤ 140737488351232 := by
  obtain ⟨A', c', e, h1, h2, h3, h4, h5⟩ := h
  simp only [List.cons.injEq, Value.slice.injEq, and_true] at e
  obtain ⟨rfl, rfl, rfl⟩ := e
  refine ⟨⟨⟨by simp [nvs], fun j u hu => ?_⟩, fun z hz => ?_⟩, h1, fun h => ⟨by have := h4 h; omega, h4 h⟩, h2, h3⟩
  · have hj : j < l.length := by have := (List.getElem?_eq_some_iff.1 hu).1; simpa [nvs] using this
    obtain ⟨b, o, vs, rfl, hl, hc, hr⟩ := h5 j hj
    obtain ⟨rfl, _⟩ := hr
    refine ⟨b, o, rfl, ?_⟩
    have := hc 0 _ rfl
    simp only [nShp, Shp.nat, Nat.mul_one, Nat.add_zero] at this
    rw [this, ← hu]
    simp [nvs, List.getElem?_eq_getElem hj]
  · obtain ⟨k, hk, rfl⟩ := List.getElem_of_mem hz
    obtain ⟨b, o, vs, rfl, hl, hc, hr⟩ := h5 k hk
    exact hr.2
theorem op_is {w : World} {cs : List Value} {v : OpV} (h : opShp.R w cs v) : ∃ X m c, cs = [.int .i64 (toOp v).kind, .int .i64 (toOp v).off, .int .i64 (toOp v).len, .slice X m c] ∧ Blo.Dat w (toOp v) X m c := by
  obtain ⟨c1, r1, rfl, hl1, ⟨h1, b1⟩, c2, r2, rfl, hl2, ⟨h2, b2⟩, c3, r3, rfl, hl3, ⟨h3, b3⟩, c4, r4, rfl, hl4, h4, h5⟩ := h
  have h5 : r4 = [] := h5
  subst h1 h2 h3 h5
  have h4' : nsShp.R w c4 v.2.2.2.1 := h4
  obtain ⟨X, c, e, _⟩ := h4
  subst e
  obtain ⟨n1, n2, n3, n4, n5⟩ := ns_of h4'
  exact ⟨X, _, c, rfl, ⟨n1, n3, n2, n4, by omega, ⟨b1, b2, b3⟩⟩⟩
theorem op_arr {w : World} {cs : Array Value} {v : OpV} (h : opShp.R w cs.toList v) : ∃ X m c, cs = #[.int .i64 (toOp v).kind, .int .i64 (toOp v).off, .int .i64 (toOp v).len, .slice X m c] ∧ Blo.Dat w (toOp v) X m c := by
  obtain ⟨X, m, c, hcs, hd⟩ := op_is h
  exact ⟨X, m, c, Array.toList_inj.1 (by rw [hcs]), hd⟩
theorem ops_os {w : World} {A : Option Addr} {n c : Nat} {l : List OpV} (h : (Shp.slice opShp 48).R w [.slice A n c] l) : Blo.Opl w A n (l.map toOp) ∧ n ≤ c ∧ c ≤ 9223372036854775807 := by
  obtain ⟨A', c', e, h1, h2, h3, h4, h5⟩ := h
  simp only [List.cons.injEq, Value.slice.injEq, and_true] at e
  obtain ⟨rfl, rfl, rfl⟩ := e
  refine ⟨⟨by simp, fun k hk => ?_⟩, h1, h2⟩
  have hk' : k < l.length := by simpa using hk
  obtain ⟨b, o, vs, rfl, hl, hc, hr⟩ := h5 k hk'
  obtain ⟨X, m, c, rfl, hd⟩ := op_is hr
  have e4 : opShp.n = 4 := rfl
  rw [e4] at hc
  simp only [List.getElem_map]
  exact ⟨b, o, X, m, c, rfl, hc 0 _ rfl, hc 1 _ rfl, hc 2 _ rfl, hc 3 _ rfl, hd⟩
theorem ops_int : Opens Try.prog 3 iShp := opens_int _ _ Try.underlying3 (by kernel_rfl) wf_i64
theorem ops_nat : Opens Try.prog 62 nShp := opens_nat _ Try.underlying62 (by kernel_rfl) wf_u64
theorem ops_ns : Opens Try.prog 27 nsShp := opens_slice 8 Try.underlying27 (by kernel_rfl) (by kernel_rfl) (by decide) ops_nat
theorem ops_op : Opens Try.prog 67 opShp :=
  opens_struct Try.underlying67 (by kernel_rfl) (opensF_cons ops_int rfl (opensF_cons ops_int rfl (opensF_cons ops_int rfl (opensF_cons ops_ns rfl (opensF_nil _)))))
theorem ops_ops : Opens Try.prog 22 (Shp.slice opShp 48) := opens_slice 48 Try.underlying22 (by kernel_rfl) (by kernel_rfl) (by decide) ops_op
abbrev RecV : Type := Int × Int × Int × Int × Int × Int × Int × List Nat × Unit
def recShp : Shp RecV := Shp.agg (Shp.pair iShp (Shp.pair iShp (Shp.pair iShp (Shp.pair iShp (Shp.pair iShp (Shp.pair iShp (Shp.pair iShp (Shp.pair nsShp Shp.unit))))))))
def toRec (v : RecV) : Rec := ⟨v.1, v.2.1, v.2.2.1, v.2.2.2.1, v.2.2.2.2.1, v.2.2.2.2.2.1, v.2.2.2.2.2.2.1, v.2.2.2.2.2.2.2.1⟩
theorem rec_is {w : World} {cs : List Value} {v : RecV} (h : recShp.R w cs v) : ∃ X m c, cs = rv (toRec v) (.slice X m c) ∧ Rdt w (toRec v) X m c := by
  obtain ⟨c1, r1, rfl, hl1, ⟨h1, b1⟩, c2, r2, rfl, hl2, ⟨h2, b2⟩, c3, r3, rfl, hl3, ⟨h3, b3⟩, c4, r4, rfl, hl4, ⟨h4, b4⟩, c5, r5, rfl, hl5, ⟨h5, b5⟩, c6, r6, rfl, hl6, ⟨h6, b6⟩, c7, r7, rfl, hl7, ⟨h7, b7⟩, c8, r8, rfl, hl8, h8, h9⟩ := h
  have h9 : r8 = [] := h9
  subst h1 h2 h3 h4 h5 h6 h7 h9
  have h8' : nsShp.R w c8 v.2.2.2.2.2.2.2.1 := h8
  obtain ⟨X, c, e, _⟩ := h8
  subst e
  obtain ⟨n1, n2, n3, n4, n5⟩ := ns_of h8'
  exact ⟨X, _, c, rfl, ⟨n1, n3, n2, n4, by omega, ⟨b1, b2, b3, b4, b5, b6, b7⟩⟩⟩
theorem rec_arr {w : World} {cs : Array Value} {v : RecV} (h : recShp.R w cs.toList v) : ∃ X m c, cs = ra (toRec v) (.slice X m c) ∧ Rdt w (toRec v) X m c := by
  obtain ⟨X, m, c, hcs, hd⟩ := rec_is h
  exact ⟨X, m, c, Array.toList_inj.1 (by rw [hcs]), hd⟩
theorem recs_rcl {w : World} {A : Option Addr} {n c : Nat} {l : List RecV} (h : (Shp.slice recShp 80).R w [.slice A n c] l) : Rcl w A n (l.map toRec) ∧ n ≤ c ∧ c ≤ 9223372036854775807 := by
  obtain ⟨A', c', e, h1, h2, h3, h4, h5⟩ := h
  simp only [List.cons.injEq, Value.slice.injEq, and_true] at e
  obtain ⟨rfl, rfl, rfl⟩ := e
  refine ⟨⟨by simp, fun k hk => ?_⟩, h1, h2⟩
  have hk' : k < l.length := by simpa using hk
  obtain ⟨b, o, vs, rfl, hl, hc, hr⟩ := h5 k hk'
  obtain ⟨X, m, c, rfl, hd⟩ := rec_is hr
  have e8 : recShp.n = 8 := rfl
  rw [e8] at hc
  simp only [List.getElem_map]
  exact ⟨b, o, X, m, c, rfl, fun j u hu => hc j u hu, hd⟩
theorem ops_rec : Opens Try.prog 29 recShp :=
  opens_struct Try.underlying29 (by kernel_rfl) (opensF_cons ops_int rfl (opensF_cons ops_int rfl (opensF_cons ops_int rfl (opensF_cons ops_int rfl (opensF_cons ops_int rfl (opensF_cons ops_int rfl (opensF_cons ops_int rfl (opensF_cons ops_ns rfl (opensF_nil _)))))))))
theorem ops_recs : Opens Try.prog 24 (Shp.slice recShp 80) := opens_slice 80 Try.underlying24 (by kernel_rfl) (by kernel_rfl) (by decide) ops_rec
theorem ops_byte : Opens Try.prog 5 Shp.u8 := opens_u8 Try.underlying5 (by kernel_rfl)
theorem ops_bytes : Opens Try.prog 45 (Shp.slice Shp.u8 1) := opens_slice 1 Try.underlying45 (by kernel_rfl) (by kernel_rfl) (by decide) ops_byte
theorem own_ : ownKnob Try.prog.godebug = none := by kernel_rfl
theorem laidOut_ : laidOutB Try.prog = true := by kernel_rfl
end Str
end Go.Proofs.Ytganoklclnbjkaa
