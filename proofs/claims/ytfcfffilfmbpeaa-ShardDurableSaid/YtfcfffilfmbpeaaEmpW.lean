/- XEmpG, XEmpR, XEmpJ, XEmpK, XEmpS, XEmpSr, XEmpQ, XEmpU, XEmpV, XEmpW. -/
import Derived.Test.YtfcfffilfmbpeaaEmpF
import Derived.Test.YtfcfffilfmbpeaaEmpB
import Derived.Laws.StructEq
set_option linter.all false
namespace Go.Proofs.Ytfcfffilfmbpeaa
open Go.RowKit

/-- What At answers. -/
def atV : Option (Int × Int) → Array Value
  | none => #[.int .i64 0, .int .i64 0, .bool false]
  | some (p, b) => #[.int .i64 p, .int .i64 b, .bool true]
/-- A row of the call's own, as it is laid on. -/
structure Own (w : World) (B : Nat) (v : Value) (l : List Ext) (m : Nat) : Prop where
  row : ∃ n, Eo w B v n l
  mays : mays l
  len : l.length ≤ m
theorem since_cons (x : Ext) (l : List Ext) (b : Int) : sinceL (x :: l) b = if b < x.birth then x :: sinceL l b else sinceL l b := by
  unfold sinceL
  rw [List.filter_cons]
  simp

section
variable (w : World)
end
end Go.Proofs.Ytfcfffilfmbpeaa

set_option linter.all false
namespace Go.Proofs.Ytfcfffilfmbpeaa
open Go.RowKit

section
variable (w : World)
end
end Go.Proofs.Ytfcfffilfmbpeaa

set_option linter.all false
namespace Go.Proofs.Ytfcfffilfmbpeaa
open Go.RowKit

theorem push_no {p : List Ext} {y x : Ext} (h : oneB y x = false) : pushL (p ++ [y]) x = (p ++ [y]) ++ [x] := by rw [push_snoc, h]; rfl
theorem push_yes {p : List Ext} {y x : Ext} (h : oneB y x = true) : pushL (p ++ [y]) x = p ++ [{ y with len := y.len + x.len }] := by rw [push_snoc, h]; rfl
section
variable (w : World)
end
end Go.Proofs.Ytfcfffilfmbpeaa

set_option linter.all false
namespace Go.Proofs.Ytfcfffilfmbpeaa
open Go.RowKit

section
variable (w : World)
end
end Go.Proofs.Ytfcfffilfmbpeaa

set_option linter.all false
namespace Go.Proofs.Ytfcfffilfmbpeaa
open Go.RowKit

/-- Where the extent ahead of k ends. -/
structure Stop (l : List Ext) (k : Nat) (lo : Int) : Prop where
  low : 0 ≤ lo
  high : lo ≤ 1024
  first : k = 0 → lo = 0
  ahead : ∀ m, k = m + 1 → ∃ y, l[m]? = some y ∧ y.may = true ∧ lo = y.off + y.len

section
variable (w : World)
end
end Go.Proofs.Ytfcfffilfmbpeaa

set_option linter.all false
namespace Go.Proofs.Ytfcfffilfmbpeaa
open Go.RowKit

section
variable (w : World)
end
end Go.Proofs.Ytfcfffilfmbpeaa

set_option linter.all false
namespace Go.Proofs.Ytfcfffilfmbpeaa
open Go.RowKit

section
variable (w : World)
end
end Go.Proofs.Ytfcfffilfmbpeaa

set_option linter.all false
namespace Go.Proofs.Ytfcfffilfmbpeaa
open Go.RowKit

/-- What At is asked for, of any list. -/
def atR (l : List Ext) (o : Int) : Option (Int × Int) := if rightB l then atL l o else none

section
variable (w : World)
set_option maxRecDepth 100000 in
theorem neq_ext (a b c d : Int) (w : World) : (binOp .neq 77 (.agg #[.int .i64 a, .int .i64 b, .int .i64 c, .int .i64 d]) (.agg #[.int .i64 a, .int .i64 b, .int .i64 c, .int .i64 d])).run Try.prog w = .ok (.bool false) w := by
  have hu := Try.underlying77
  obtain ⟨fs, hf⟩ : ∃ fs, Try.prog.fieldsOf 77 = fs := ⟨_, rfl⟩
  have hf' := hf
  unfold Program.fieldsOf at hf'
  rw [hu] at hf'
  simp only at hf'
  subst hf'
  have hi : Try.prog.underlying 3 = some (.int .i64) := Try.underlying3
  have he : (Op.equalIn 10000 77 (.agg #[.int .i64 a, .int .i64 b, .int .i64 c, .int .i64 d]) (.agg #[.int .i64 a, .int .i64 b, .int .i64 c, .int .i64 d])).run Try.prog w = .ok true w := by
    rw [run_equalIn_struct w 9999 77 _ _ (by rw [hf, hu]) (by kernel_rfl), hf]
    have q : ∀ z, (Op.equalIn 9999 3 (.int .i64 z) (.int .i64 z)).run Try.prog w = .ok true w := fun z => by
      rw [run_equalIn_int w 9998 3 .i64 .i64 z z hi]; simp
    simp [Op.eqFields, go_sem, q]
  simp only [binOp]
  simp [Op.equal, Op.maxDepth, he]
/-- Lists that are the same. -/
theorem at_pair {w : World} {A B : Option Addr} {n m : Nat} {l : List Ext} (ha : Es w A n l) (hb : Es w B m l) {k : Nat} (hk : k < n) :
    ∃ p o q r x, A = some ⟨p, o, none⟩ ∧ B = some ⟨q, r, none⟩ ∧ Fit x ∧ w.cell? ⟨p, o + k * 4, none⟩ = some (.int .i64 x.off) ∧ w.cell? ⟨p, o + k * 4 + 1, none⟩ = some (.int .i64 x.len) ∧ w.cell? ⟨p, o + k * 4 + 2, none⟩ = some (.int .i64 x.phys) ∧ w.cell? ⟨p, o + k * 4 + 3, none⟩ = some (.int .i64 x.birth) ∧
      w.cell? ⟨q, r + k * 4, none⟩ = some (.int .i64 x.off) ∧ w.cell? ⟨q, r + k * 4 + 1, none⟩ = some (.int .i64 x.len) ∧ w.cell? ⟨q, r + k * 4 + 2, none⟩ = some (.int .i64 x.phys) ∧ w.cell? ⟨q, r + k * 4 + 3, none⟩ = some (.int .i64 x.birth) := by
  have hnm : n = m := ha.len.trans hb.len.symm
  obtain ⟨p, o, e, x, hx, fx, c0, c1, c2, c3⟩ := ha.at_ hk
  obtain ⟨q, r, e', y, hy, fy, d0, d1, d2, d3⟩ := hb.at_ (k := k) (by omega)
  rw [hx] at hy
  injection hy with hy
  subst hy
  exact ⟨p, o, q, r, x, e, e', fx, c0, c1, c2, c3, d0, d1, d2, d3⟩
end
end Go.Proofs.Ytfcfffilfmbpeaa

set_option linter.all false
namespace Go.Proofs.Ytfcfffilfmbpeaa
open Go.RowKit

theorem some_ne {a : Addr} {q : Prop} (h : some a = none) : q := by cases h
theorem ev_one (x : Ext) : ∀ u ∈ ev x, u.oneCell' = true := fun u hu => evs_one [x] u (by simpa [evs] using hu)
theorem mays_put {l : List Ext} {x : Ext} (h : rightB l = true) (hx : x.may = true) : mays (partL l 0 x.off ++ x :: partL l (x.off + x.len) 1024) := by
  have hm := mays_right h
  intro y hy
  have hp : ∀ {a b : Int}, ∀ z ∈ partL l a b, z.may = true := fun z hz => by
    obtain ⟨u, hu, hc⟩ := List.mem_filterMap.1 hz
    exact clip_may (hm u hu) hc
  rcases List.mem_append.1 hy with hy | hy
  · exact hp y hy
  · rcases List.mem_cons.1 hy with rfl | hy
    · exact hx
    · exact hp y hy
section
variable (w : World)
end
end Go.Proofs.Ytfcfffilfmbpeaa

set_option linter.all false
namespace Go.Proofs.Ytfcfffilfmbpeaa
open Go.ChangeShapes Go.WideShapes Go.ChangeAt Go.RowKit

def errOf (b : Bool) : Int := if b then 0 else 1
def ifL (b : Bool) (l : List Ext) : List Ext := if b then l else []
/-- A list that was answered: in new memory from B on, of the call's own. -/
structure Got (w : World) (B : Nat) (A : Option Addr) (m c : Nat) (l : List Ext) : Prop where
  own : Eo w B (.slice A m c) m l
  mays : mays l
  le : m ≤ 9223372036854775807
theorem Got.es {w : World} {B : Nat} {A : Option Addr} {m c : Nat} {l : List Ext} (h : Got w B A m c l) : Es w A m l := eo_es h.own (mays_fit h.mays)
theorem Got.keep {w w' : World} {B : Nat} {A : Option Addr} {m c : Nat} {l : List Ext} (h : Got w B A m c l) (hb : Below w.heap.size w w') : Got w' B A m c l := ⟨own_keep h.own hb, h.mays, h.le⟩
theorem Got.drewN {w : World} {B : Nat} {A : Option Addr} {m c : Nat} {l : List Ext} (h : Got w B A m c l) (k : Nat) : Got (w.drewN k) B A m c l := ⟨h.own, h.mays, h.le⟩
theorem Got.mono {w : World} {B B' : Nat} {A : Option Addr} {m c : Nat} {l : List Ext} (h : Got w B A m c l) (hb : B' ≤ B) : Got w B' A m c l := ⟨h.own.mono hb, h.mays, h.le⟩
theorem Got.none (w : World) (B : Nat) : Got w B none 0 0 [] := ⟨eo_nil w B, mays_nil, by omega⟩
theorem got_of {w : World} {B : Nat} {v : Value} {m : Nat} {l : List Ext} (h : Eo w B v m l) (hm : mays l) : ∃ A c, v = .slice A m c ∧ Got w B A m c l := by
  obtain ⟨A, c, rfl, h1, h2, h3⟩ := own_form h
  exact ⟨A, c, rfl, h, hm, by unfold maxLen at h2; omega⟩
/-- What a call answers: a list and an error's number. -/
def Ans (w w' : World) (e : Ending) (er : Int) (l : List Ext) : Prop := ∃ A m c, e = .returned (.tuple #[.slice A m c, .int .i64 er]) ∧ Got w' w.heap.size A m c l ∧ Below w.heap.size w w'
theorem ans_no {w w' : World} {e : Ending} {b : Bool} {l : List Ext} (hb : b = false) (h : e = .returned (.tuple #[.slice none 0 0, .int .i64 1]) ∧ Below w.heap.size w w') : Ans w w' e (errOf b) (ifL b l) := by
  subst hb
  exact ⟨none, 0, 0, h.1, Got.none _ _, h.2⟩
theorem ans_ok {w w' : World} {e : Ending} {b : Bool} {l : List Ext} (hb : b = true) (hm : mays l) (h : ∃ v m, e = .returned (.tuple #[v, .int .i64 0]) ∧ Eo w' w.heap.size v m l ∧ Below w.heap.size w w') : Ans w w' e (errOf b) (ifL b l) := by
  subst hb
  obtain ⟨v, m, rfl, h1, h2⟩ := h
  obtain ⟨A, c, rfl, hg⟩ := got_of h1 hm
  exact ⟨A, m, c, rfl, hg, h2⟩
theorem mays_joinL {l : List Ext} (h : listB l = true) : mays (joinL l) := mays_list (join_is (lo := 0) h).1
theorem mays_putL {l : List Ext} {x : Ext} (h : rightB l = true) (hx : x.may = true) : mays (putL l x) := mays_right (put_is h hx).1
theorem mays_cutL {l : List Ext} {o k : Int} (h : rightB l = true) (hx : rangeB o k = true) : mays (cutL l o k) := mays_right (cut_is h hx).1
theorem mays_partL {l : List Ext} {o k : Int} (h : rightB l = true) (hx : rangeB o k = true) : mays (partL l o (o + k)) := mays_right (part_right h (range_is.1 hx).1)
theorem mays_sinceL {l : List Ext} {b : Int} (h : rightB l = true) : mays (sinceL l b) := fun x hx => mays_right h x (List.mem_filter.1 hx).1
theorem and_no {a b : Bool} (h : ¬ (a && b) = true) : (a && b) = false ∧ ¬ (a = true ∧ b = true) := ⟨by simpa using h, fun e => h (by rw [e.1, e.2]; rfl)⟩

section
variable (w : World) (A : Option Addr) (n c : Nat) (l : List Ext) (h : Es w A n l) (hn : n ≤ 9223372036854775807)
include h hn
theorem put_ (x : Ext) (fx : Fit x) : Calls Try.prog 68 #[.slice A n c, .agg #[.int .i64 x.off, .int .i64 x.len, .int .i64 x.phys, .int .i64 x.birth]] w fun e w' => Ans w w' e (errOf (rightB l && x.may)) (ifL (rightB l && x.may) (putL l x)) := by
  by_cases hr : (rightB l && x.may) = true
  · have h2 := Bool.and_eq_true_iff.1 hr
    exact (put_ok w A n c l x h h2.1 h2.2).mono fun _ _ q => ans_ok hr (mays_putL h2.1 h2.2) q
  · exact (put_no w A n c l x h hn fx (and_no hr).2).mono fun _ _ q => ans_no (and_no hr).1 q
theorem cut_ (o k : Int) (fo : I64 o) (fk : I64 k) : Calls Try.prog 66 #[.slice A n c, .int .i64 o, .int .i64 k] w fun e w' => Ans w w' e (errOf (rightB l && rangeB o k)) (ifL (rightB l && rangeB o k) (cutL l o k)) := by
  by_cases hr : (rightB l && rangeB o k) = true
  · have h2 := Bool.and_eq_true_iff.1 hr
    exact (cut_ok w A n c l o k h h2.1 h2.2).mono fun _ _ q => ans_ok hr (mays_cutL h2.1 h2.2) q
  · exact (cut_no w A n c l o k h hn fo fk (and_no hr).2).mono fun _ _ q => ans_no (and_no hr).1 q
end

/-! ### alive -/
def lv0 : List Ext := [⟨0, 4, 0, 0⟩]
def xv0 : Ext := ⟨1, 2, 9, 0⟩
def lv1 : List Ext := [⟨0, 1, 0, 0⟩, ⟨1, 2, 9, 0⟩, ⟨3, 1, 3, 0⟩]
theorem lv_right : rightB lv0 = true := by decide +kernel
theorem xv_may : xv0.may = true := by decide +kernel
theorem lv_put : putL lv0 xv0 = lv1 := by decide +kernel
theorem lv_at : atR lv1 3 = some (3, 0) := by decide +kernel
theorem lv1_right : rightB lv1 = true := by decide +kernel
theorem lv_fit : ∀ x ∈ lv0, Fit x := fun x hx => by
  simp only [lv0, List.mem_singleton] at hx
  subst hx
  exact fit_of (by decide +kernel)
theorem own_ : ownKnob Try.prog.godebug = none := by kernel_rfl
theorem laidOut_ : laidOutB Try.prog = true := by kernel_rfl

/-! ### arguments -/
abbrev ExtV : Type := Int × Int × Int × Int × Unit
def iShp : Shp Int := Shp.int .i64 (-9223372036854775808) 9223372036854775807
def extShp : Shp ExtV := Shp.agg (Shp.pair iShp (Shp.pair iShp (Shp.pair iShp (Shp.pair iShp Shp.unit))))
def toExt (v : ExtV) : Ext := ⟨v.1, v.2.1, v.2.2.1, v.2.2.2.1⟩
theorem ext_is {w : World} {cs : List Value} {v : ExtV} (h : extShp.R w cs v) : cs = ev (toExt v) ∧ Fit (toExt v) := by
  obtain ⟨c1, r1, rfl, hl1, ⟨h1, b1⟩, c2, r2, rfl, hl2, ⟨h2, b2⟩, c3, r3, rfl, hl3, ⟨h3, b3⟩, c4, r4, rfl, hl4, ⟨h4, b4⟩, h5⟩ := h
  have h5 : r4 = [] := h5
  subst h1 h2 h3 h4 h5
  exact ⟨rfl, ⟨b1, b2, b3, b4⟩⟩
theorem ext_arr {w : World} {cs : Array Value} {v : ExtV} (h : extShp.R w cs.toList v) : cs = #[.int .i64 (toExt v).off, .int .i64 (toExt v).len, .int .i64 (toExt v).phys, .int .i64 (toExt v).birth] ∧ Fit (toExt v) := by
  obtain ⟨hcs, r⟩ := ext_is h
  exact ⟨Array.toList_inj.1 (by rw [hcs]; rfl), r⟩
theorem exts_es {w : World} {A : Option Addr} {n c : Nat} {l : List ExtV} (h : (Shp.slice extShp 32).R w [.slice A n c] l) : Es w A n (l.map toExt) ∧ n ≤ c ∧ c * 32 ≤ 140737488351232 ∧ (A = none → c = 0) := by
  obtain ⟨A', c', e, h1, h2, h3, h4, h5⟩ := h
  simp only [List.cons.injEq, Value.slice.injEq, and_true] at e
  obtain ⟨rfl, rfl, rfl⟩ := e
  refine ⟨⟨⟨by rw [evs_len]; simp, fun j u hu => ?_⟩, fun x hx => ?_⟩, h1, h3, h4⟩
  · have hj : j < l.length * 4 := by
      have := (List.getElem?_eq_some_iff.1 hu).1
      rw [evs_len] at this
      simpa using this
    have hk : j / 4 < l.length := by omega
    obtain ⟨b, o, vs, rfl, hl, hc, hr⟩ := h5 (j / 4) hk
    obtain ⟨rfl, _⟩ := ext_is hr
    refine ⟨b, o, rfl, ?_⟩
    have hu2 : (evs (l.map toExt))[j / 4 * 4 + j % 4]? = some u := by rw [show j / 4 * 4 + j % 4 = j by omega]; exact hu
    rw [evs_at (l := l.map toExt) (k := j / 4) (by simpa using hk) (by omega)] at hu2
    simp only [List.getElem_map] at hu2
    have := hc (j % 4) u hu2
    have e4 : extShp.n = 4 := rfl
    rw [e4, Nat.add_assoc, show j / 4 * 4 + j % 4 = j by omega] at this
    exact this
  · obtain ⟨v, hv, rfl⟩ := List.mem_map.1 hx
    obtain ⟨k, hk, rfl⟩ := List.getElem_of_mem hv
    obtain ⟨b, o, vs, rfl, hl, hc, hr⟩ := h5 k hk
    exact (ext_is hr).2
theorem ops_int : Opens Try.prog 3 iShp := opens_int _ _ Try.underlying3 (by kernel_rfl) wf_i64
theorem ops_ext : Opens Try.prog 77 extShp :=
  opens_struct Try.underlying77 (by kernel_rfl) (opensF_cons ops_int rfl (opensF_cons ops_int rfl (opensF_cons ops_int rfl (opensF_cons ops_int rfl (opensF_nil _)))))
theorem ops_exts : Opens Try.prog 90 (Shp.slice extShp 32) := opens_slice 32 Try.underlying90 (by kernel_rfl) (by kernel_rfl) (by decide) ops_ext
end Go.Proofs.Ytfcfffilfmbpeaa
