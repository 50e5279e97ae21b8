/- Layer 17: arguments: orders, calls, what happens, and lists of them. -/
import Derived.Test.YtpjbeodnalgkfaaBarI
import Derived.Test.YtpjbeodnalgkfaaLaw
set_option linter.all false
namespace Go.Proofs.Ytpjbeodnalgkfaa
open Go.ChangeShapes Go.WideShapes Go.ChangeAt Go.RowKit
namespace Bar
theorem own_ : ownKnob Try.prog.godebug = none := by kernel_rfl
theorem laidOut_ : laidOutB Try.prog = true := by kernel_rfl
def iShp : Shp Int := Shp.int .i64 (-9223372036854775808) 9223372036854775807
def kShp : Shp Nat := Shp.nat .u8 256
theorem ops_int : Opens Try.prog 3 iShp := opens_int _ _ Try.underlying3 (by kernel_rfl) wf_i64
theorem ops_kind : Opens Try.prog 5 kShp := opens_nat 256 Try.underlying5 (by kernel_rfl) wf_u8
theorem ops_bool : Opens Try.prog 4 Shp.bool := opens_bool Try.underlying4 (by kernel_rfl)
/-! ### Ask -/
abbrev AskV : Type := Int × Int × Bool × Unit
def askShp : Shp AskV := Shp.agg (Shp.pair iShp (Shp.pair iShp (Shp.pair Shp.bool Shp.unit)))
theorem ops_ask : Opens Try.prog 30 askShp :=
  opens_struct Try.underlying30 (by kernel_rfl) (opensF_cons ops_int rfl (opensF_cons ops_int rfl (opensF_cons ops_bool rfl (opensF_nil _))))
structure Askd where
  kd : Int
  id : Int
  cr : Bool
def toAsk (v : AskV) : Askd := ⟨v.1, v.2.1, v.2.2.1⟩
abbrev aska (a : Askd) : Array Value := #[.int .i64 a.kd, .int .i64 a.id, .bool a.cr]
structure AskF (a : Askd) : Prop where
  kd : I64 a.kd
  id : I64 a.id
theorem ask_is {w : World} {cs : List Value} {v : AskV} (h : askShp.R w cs v) : cs = (aska (toAsk v)).toList ∧ AskF (toAsk v) := by
  obtain ⟨c1, r1, rfl, hl1, ⟨h1, b1⟩, c2, r2, rfl, hl2, ⟨h2, b2⟩, c3, r3, rfl, hl3, h3, hz⟩ := h
  have hz : r3 = [] := hz
  have h3 : c3 = _ := h3
  subst h1 h2 h3 hz
  exact ⟨rfl, ⟨b1, b2⟩⟩
theorem ask_arr {w : World} {cs : Array Value} {v : AskV} (h : askShp.R w cs.toList v) : cs = aska (toAsk v) ∧ AskF (toAsk v) := by
  obtain ⟨e, hm⟩ := ask_is h
  exact ⟨Array.toList_inj.1 e, hm⟩
theorem ops_asks : Opens Try.prog 22 (Shp.slice askShp 24) := opens_slice 24 Try.underlying22 (by kernel_rfl) (by kernel_rfl) (by decide) ops_ask
structure AskL (w : World) (A : Option Addr) (n : Nat) (l : List Askd) : Prop where
  len : n = l.length
  at_ : ∀ i, i < n → ∃ b o a, A = some ⟨b, o, none⟩ ∧ l[i]? = some a ∧ AskF a ∧ ∀ j u, (aska a)[j]? = some u → w.cell? ⟨b, o + i * 3 + j, none⟩ = some u
theorem AskL.below {w w' : World} {A : Option Addr} {n : Nat} {l : List Askd} (h : AskL w A n l) (hb : Below w.heap.size w w') : AskL w' A n l :=
  ⟨h.len, fun i hi => by
    obtain ⟨b, o, a, e, hl, hA, hc⟩ := h.at_ i hi
    exact ⟨b, o, a, e, hl, hA, fun j u hu => (hb.cell (cell_lt (hc j u hu))).trans (hc j u hu)⟩⟩
theorem asks_of {w : World} {A : Option Addr} {n c : Nat} {l : List AskV} (h : (Shp.slice askShp 24).R w [.slice A n c] l) : AskL w A n (l.map toAsk) ∧ n ≤ c ∧ c * 24 ≤ 140737488351232 := by
  obtain ⟨A', c', e, h1, h2, h3, h4, h5⟩ := h
  simp only [List.cons.injEq, Value.slice.injEq, and_true] at e
  obtain ⟨rfl, rfl, rfl⟩ := e
  refine ⟨⟨by simp, fun k hk => ?_⟩, h1, h3⟩
  obtain ⟨b, o, vs, rfl, hl, hc, hr⟩ := h5 k hk
  obtain ⟨rfl, hA⟩ := ask_is hr
  have e6 : askShp.n = 3 := rfl
  rw [e6] at hc
  exact ⟨b, o, toAsk l[k], rfl, by rw [List.getElem?_map, List.getElem?_eq_getElem hk]; rfl, hA, fun j u hu => hc j u (by simpa using hu)⟩
/-! ### Call -/
abbrev CallV : Type := Nat × Int × Int × Int × Unit
def callShp : Shp CallV := Shp.agg (Shp.pair kShp (Shp.pair iShp (Shp.pair iShp (Shp.pair iShp Shp.unit))))
theorem ops_call : Opens Try.prog 47 callShp :=
  opens_struct Try.underlying47 (by kernel_rfl) (opensF_cons ops_kind rfl (opensF_cons ops_int rfl (opensF_cons ops_int rfl (opensF_cons ops_int rfl (opensF_nil _)))))
structure Calld where
  kd : Nat
  ag : Int
  an : Int
  id : Int
def toCall (v : CallV) : Calld := ⟨v.1, v.2.1, v.2.2.1, v.2.2.2.1⟩
abbrev calla (a : Calld) : Array Value := #[.int .u8 (a.kd : Int), .int .i64 a.ag, .int .i64 a.an, .int .i64 a.id]
structure CallF (a : Calld) : Prop where
  kd : a.kd < 256
  ag : I64 a.ag
  an : I64 a.an
  id : I64 a.id
theorem call_is {w : World} {cs : List Value} {v : CallV} (h : callShp.R w cs v) : cs = (calla (toCall v)).toList ∧ CallF (toCall v) := by
  obtain ⟨c1, r1, rfl, hl1, ⟨h1, b1⟩, c2, r2, rfl, hl2, ⟨h2, b2⟩, c3, r3, rfl, hl3, ⟨h3, b3⟩, c4, r4, rfl, hl4, ⟨h4, b4⟩, hz⟩ := h
  have hz : r4 = [] := hz
  subst h1 h2 h3 h4 hz
  exact ⟨rfl, ⟨b1, b2, b3, b4⟩⟩
theorem call_arr {w : World} {cs : Array Value} {v : CallV} (h : callShp.R w cs.toList v) : cs = calla (toCall v) ∧ CallF (toCall v) := by
  obtain ⟨e, hm⟩ := call_is h
  exact ⟨Array.toList_inj.1 e, hm⟩
theorem ops_calls : Opens Try.prog 36 (Shp.slice callShp 32) := opens_slice 32 Try.underlying36 (by kernel_rfl) (by kernel_rfl) (by decide) ops_call
structure CallL (w : World) (A : Option Addr) (n : Nat) (l : List Calld) : Prop where
  len : n = l.length
  at_ : ∀ i, i < n → ∃ b o a, A = some ⟨b, o, none⟩ ∧ l[i]? = some a ∧ CallF a ∧ ∀ j u, (calla a)[j]? = some u → w.cell? ⟨b, o + i * 4 + j, none⟩ = some u
theorem CallL.below {w w' : World} {A : Option Addr} {n : Nat} {l : List Calld} (h : CallL w A n l) (hb : Below w.heap.size w w') : CallL w' A n l :=
  ⟨h.len, fun i hi => by
    obtain ⟨b, o, a, e, hl, hA, hc⟩ := h.at_ i hi
    exact ⟨b, o, a, e, hl, hA, fun j u hu => (hb.cell (cell_lt (hc j u hu))).trans (hc j u hu)⟩⟩
theorem calls_of {w : World} {A : Option Addr} {n c : Nat} {l : List CallV} (h : (Shp.slice callShp 32).R w [.slice A n c] l) : CallL w A n (l.map toCall) ∧ n ≤ c ∧ c * 32 ≤ 140737488351232 := by
  obtain ⟨A', c', e, h1, h2, h3, h4, h5⟩ := h
  simp only [List.cons.injEq, Value.slice.injEq, and_true] at e
  obtain ⟨rfl, rfl, rfl⟩ := e
  refine ⟨⟨by simp, fun k hk => ?_⟩, h1, h3⟩
  obtain ⟨b, o, vs, rfl, hl, hc, hr⟩ := h5 k hk
  obtain ⟨rfl, hA⟩ := call_is hr
  have e6 : callShp.n = 4 := rfl
  rw [e6] at hc
  exact ⟨b, o, toCall l[k], rfl, by rw [List.getElem?_map, List.getElem?_eq_getElem hk]; rfl, hA, fun j u hu => hc j u (by simpa using hu)⟩
/-! ### Do -/
abbrev DoV : Type := Nat × Int × Int × Unit
def doShp : Shp DoV := Shp.agg (Shp.pair kShp (Shp.pair iShp (Shp.pair iShp Shp.unit)))
theorem ops_do : Opens Try.prog 66 doShp :=
  opens_struct Try.underlying66 (by kernel_rfl) (opensF_cons ops_kind rfl (opensF_cons ops_int rfl (opensF_cons ops_int rfl (opensF_nil _))))
structure Dod where
  kd : Nat
  id : Int
  i : Int
def toDo (v : DoV) : Dod := ⟨v.1, v.2.1, v.2.2.1⟩
abbrev doa (a : Dod) : Array Value := #[.int .u8 (a.kd : Int), .int .i64 a.id, .int .i64 a.i]
structure DoF (a : Dod) : Prop where
  kd : a.kd < 256
  id : I64 a.id
  i : I64 a.i
theorem do_is {w : World} {cs : List Value} {v : DoV} (h : doShp.R w cs v) : cs = (doa (toDo v)).toList ∧ DoF (toDo v) := by
  obtain ⟨c1, r1, rfl, hl1, ⟨h1, b1⟩, c2, r2, rfl, hl2, ⟨h2, b2⟩, c3, r3, rfl, hl3, ⟨h3, b3⟩, hz⟩ := h
  have hz : r3 = [] := hz
  subst h1 h2 h3 hz
  exact ⟨rfl, ⟨b1, b2, b3⟩⟩
theorem do_arr {w : World} {cs : Array Value} {v : DoV} (h : doShp.R w cs.toList v) : cs = doa (toDo v) ∧ DoF (toDo v) := by
  obtain ⟨e, hm⟩ := do_is h
  exact ⟨Array.toList_inj.1 e, hm⟩
theorem ops_dos : Opens Try.prog 61 (Shp.slice doShp 24) := opens_slice 24 Try.underlying61 (by kernel_rfl) (by kernel_rfl) (by decide) ops_do
structure DoL (w : World) (A : Option Addr) (n : Nat) (l : List Dod) : Prop where
  len : n = l.length
  at_ : ∀ i, i < n → ∃ b o a, A = some ⟨b, o, none⟩ ∧ l[i]? = some a ∧ DoF a ∧ ∀ j u, (doa a)[j]? = some u → w.cell? ⟨b, o + i * 3 + j, none⟩ = some u
theorem DoL.below {w w' : World} {A : Option Addr} {n : Nat} {l : List Dod} (h : DoL w A n l) (hb : Below w.heap.size w w') : DoL w' A n l :=
  ⟨h.len, fun i hi => by
    obtain ⟨b, o, a, e, hl, hA, hc⟩ := h.at_ i hi
    exact ⟨b, o, a, e, hl, hA, fun j u hu => (hb.cell (cell_lt (hc j u hu))).trans (hc j u hu)⟩⟩
theorem dos_of {w : World} {A : Option Addr} {n c : Nat} {l : List DoV} (h : (Shp.slice doShp 24).R w [.slice A n c] l) : DoL w A n (l.map toDo) ∧ n ≤ c ∧ c * 24 ≤ 140737488351232 := by
  obtain ⟨A', c', e, h1, h2, h3, h4, h5⟩ := h
  simp only [List.cons.injEq, Value.slice.injEq, and_true] at e
  obtain ⟨rfl, rfl, rfl⟩ := e
  refine ⟨⟨by simp, fun k hk => ?_⟩, h1, h3⟩
  obtain ⟨b, o, vs, rfl, hl, hc, hr⟩ := h5 k hk
  obtain ⟨rfl, hA⟩ := do_is hr
  have e6 : doShp.n = 3 := rfl
  rw [e6] at hc
  exact ⟨b, o, toDo l[k], rfl, by rw [List.getElem?_map, List.getElem?_eq_getElem hk]; rfl, hA, fun j u hu => hc j u (by simpa using hu)⟩
end Bar
end Go.Proofs.Ytpjbeodnalgkfaa
