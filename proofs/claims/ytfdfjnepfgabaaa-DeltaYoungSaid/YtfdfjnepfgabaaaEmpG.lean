/- XEmpC, XEmpD, XEmpE, XEmpF, XEmpG. -/
import Derived.Test.YtfdfjnepfgabaaaEmpB
import Derived.Test.YtfdfjnepfgabaaaStep
import Derived.Deep.DeepCutAuto
import Derived.Deep.CutBlock
set_option linter.all false
namespace Go.Proofs.Ytfdfjnepfgabaaa
open Go.RowKit

/-! ### one extent laid behind a list -/
def pushL (l : List Ext) (x : Ext) : List Ext := match l.getLast? with
  | some y => if oneB y x then l.dropLast ++ [{ y with len := y.len + x.len }] else l ++ [x]
  | none => [x]
theorem push_nil (x : Ext) : pushL [] x = [x] := rfl
theorem push_snoc (p : List Ext) (y x : Ext) : pushL (p ++ [y]) x = if oneB y x then p ++ [{ y with len := y.len + x.len }] else p ++ [y] ++ [x] := by
  unfold pushL
  simp
theorem fold_push : ∀ (l p : List Ext) (y : Ext), l.foldl pushL (p ++ [y]) = p ++ joinIn y l
  | [], p, y => rfl
  | x :: l, p, y => by
    rw [List.foldl_cons, push_snoc]
    unfold joinIn
    by_cases h : oneB y x = true
    · rw [if_pos h, if_pos h, fold_push l]
    · rw [if_neg h, if_neg h, fold_push l]
      simp
theorem fold_join (l : List Ext) : l.foldl pushL [] = joinL l := by
  cases l with
  | nil => rfl
  | cons x l => exact fold_push l [] x
/-- All may be. -/
def mays (l : List Ext) : Prop := ∀ x ∈ l, x.may = true
theorem mays_nil : mays [] := by simp [mays]
theorem mays_snoc {l : List Ext} {x : Ext} (h : mays l) (hx : x.may = true) : mays (l ++ [x]) := by
  intro y hy
  rcases List.mem_append.1 hy with hy | hy
  · exact h y hy
  · rw [List.mem_singleton.1 hy]; exact hx
theorem snoc_cases {α : Type} (l : List α) : l = [] ∨ ∃ p y, l = p ++ [y] := by
  rcases List.eq_nil_or_concat l with h | ⟨p, y, h⟩
  · exact .inl h
  · exact .inr ⟨p, y, by simpa using h⟩
theorem mays_push {l : List Ext} {x : Ext} (h : mays l) (hx : x.may = true) : mays (pushL l x) := by
  rcases snoc_cases l with rfl | ⟨p, y, rfl⟩
  · rw [push_nil]; exact mays_snoc mays_nil hx
  · rw [push_snoc]
    split
    · rename_i ho
      have hy := may_len (h y (by simp))
      have hx := may_len hx
      obtain ⟨o1, o2, o3⟩ := one_is ho
      refine mays_snoc (fun z hz => h z (by simp [hz])) (may_of (by simp only; omega))
    · exact mays_snoc h hx
theorem push_length (l : List Ext) (x : Ext) : (pushL l x).length ≤ l.length + 1 := by
  rcases snoc_cases l with rfl | ⟨p, y, rfl⟩
  · rw [push_nil]; simp
  · rw [push_snoc]
    split <;> simp
def appL (l : List Ext) (x : Ext) : List Ext := l ++ [x]
theorem fold_app : ∀ (l p : List Ext), l.foldl appL p = p ++ l
  | [], p => by simp
  | x :: l, p => by rw [List.foldl_cons, fold_app l]; simp [appL]
theorem mays_fit {l : List Ext} (h : mays l) : ∀ x ∈ l, Fit x := fun x hx => fit_of (h x hx)

/-! ### lists that the call made -/
/-- v is a row of the call's own, in new memory from base on, and reads as l. -/
abbrev Eo (w : World) (base : Nat) (v : Value) (n : Nat) (l : List Ext) : Prop := w.ownsRow base 57 4 v n (evs l)
theorem eo_len {w : World} {base : Nat} {v : Value} {n : Nat} {l : List Ext} (h : Eo w base v n l) : n = l.length := by have := h.1; rw [evs_len] at this; omega
theorem eo_es {w : World} {base : Nat} {A : Option Addr} {n c : Nat} {l : List Ext} (h : Eo w base (.slice A n c) n l) (hf : ∀ x ∈ l, Fit x) : Es w A n l := ⟨rd_own h, hf⟩
theorem eo_nil (w : World) (base : Nat) : Eo w base (.slice none 0 0) 0 [] := own_nil w base _ 4
theorem eo_of {w : World} {base : Nat} {v : Value} {n : Nat} {xs : List Value} {l : List Ext} (h : w.ownsRow base 57 4 v n xs) (e : xs = evs l) : Eo w base v n l := by subst e; exact h
theorem grown_drewR {a b : World} {row : Option Nat} (h : a.grownBy b row) : a.grownBy b.drew row := ⟨h.os, h.tape, h.output, h.size, h.block⟩
theorem evs_one (l : List Ext) : ∀ u ∈ evs l, u.oneCell' = true := by
  intro u hu
  obtain ⟨x, _, hx⟩ := List.mem_flatMap.1 hu
  simp only [ev, List.mem_cons, List.not_mem_nil, or_false] at hx
  rcases hx with rfl | rfl | rfl | rfl <;> rfl
theorem evs_snoc (l : List Ext) (x : Ext) : evs (l ++ [x]) = evs l ++ ev x := by rw [evs_app]; simp [evs]
theorem rd_one {w : World} {x : Ext} {g : Nat} {t : TypeId} (hg : g = w.heap.size) : Rd (w.alloc (.cells #[.int .i64 x.off, .int .i64 x.len, .int .i64 x.phys, .int .i64 x.birth] t)) (some ⟨g, 0, none⟩) 4 1 (ev x) := by
  subst hg
  exact Rd.new w #[.int .i64 x.off, .int .i64 x.len, .int .i64 x.phys, .int .i64 x.birth] t (0, 0) rfl
/-- The last extent's length, written over. -/
theorem eo_set {w : World} {base : Nat} {v : Value} {n : Nat} {p : List Ext} {y : Ext} (h : Eo w base v n (p ++ [y])) : ∃ g cap cur, v = .slice (some ⟨g, 0, none⟩) n cap ∧ n ≤ cap ∧ cap ≤ maxLen ∧ base ≤ g ∧ n = p.length + 1 ∧ Blk w g 57 cur ∧
    w.cell? ⟨g, p.length * 4, none⟩ = some (.int .i64 y.off) ∧ w.cell? ⟨g, p.length * 4 + 1, none⟩ = some (.int .i64 y.len) ∧ w.cell? ⟨g, p.length * 4 + 2, none⟩ = some (.int .i64 y.phys) ∧ w.cell? ⟨g, p.length * 4 + 3, none⟩ = some (.int .i64 y.birth) ∧
    w.frozen? ⟨g, p.length * 4 + 1, none⟩ = false ∧
    ∀ z : Int, Eo (w.setCell ⟨g, p.length * 4 + 1, none⟩ (.int .i64 z)) base v n (p ++ [{ y with len := z }]) := by
  have hl := eo_len h
  rw [List.length_append, List.length_singleton] at hl
  rcases h.2 with ⟨_, h0⟩ | ⟨g, cap, cur, rfl, hg, hh, hnc, hcm, hcs, hx⟩
  · omega
  have hb : Blk w g 57 cur := hh
  have hc : ∀ j (u : Value), (ev y)[j]? = some u → w.cell? ⟨g, p.length * 4 + j, none⟩ = some u := fun j u hu => by
    refine hb.cell ?_
    have h1 : (evs (p ++ [y]))[p.length * 4 + j]? = some u := by
      rw [evs_snoc, List.getElem?_append_right (by rw [evs_len]; omega), evs_len, Nat.add_sub_cancel_left]
      exact hu
    rw [← hx, List.getElem?_take] at h1
    split at h1
    · simpa using h1
    · cases h1
  refine ⟨g, cap, cur, rfl, hnc, hcm, hg, hl, hb, hc 0 _ rfl, hc 1 _ rfl, hc 2 _ rfl, hc 3 _ rfl, hb.free _, fun z => ⟨?_, .inr ⟨g, cap, cur.setIfInBounds (p.length * 4 + 1) (.int .i64 z), rfl, hg, hb.setCell _ _, hnc, hcm, by simp [hcs], ?_⟩⟩⟩
  · rw [evs_len]; simp [hl]
  · rw [Array.toList_setIfInBounds, List.take_set, hx, evs_snoc, evs_snoc, List.set_append_right _ _ (by rw [evs_len]; omega), evs_len, Nat.add_sub_cancel_left]
    rfl
theorem info_ext : (Try.prog.info? 57).map (fun i => (i.zero, i.size, i.bytes)) = some (some (.agg #[.int .i64 0, .int .i64 0, .int .i64 0, .int .i64 0]), 4, 32) := by kernel_rfl
theorem ext_info : ∃ i, Try.prog.info? 57 = some i ∧ i.zero = some (.agg #[.int .i64 0, .int .i64 0, .int .i64 0, .int .i64 0]) ∧ i.size = 4 ∧ i.bytes = 32 := by
  obtain ⟨i, hi, he⟩ := Option.map_eq_some_iff.1 info_ext
  simp only [Prod.mk.injEq] at he
  exact ⟨i, hi, he.1, he.2.1, he.2.2⟩

section
variable (w : World)
end
end Go.Proofs.Ytfdfjnepfgabaaa

set_option linter.all false
namespace Go.Proofs.Ytfdfjnepfgabaaa
open Go.RowKit

/-- Variable bv, and the list in it, are the call's own, in new memory from B on. -/
structure Held (w : World) (B bv : Nat) (l : List Ext) : Prop where
  new : B ≤ bv
  row : ∃ v n, Blk w bv 22 #[v] ∧ Eo w B v n l
theorem Held.keep {w w' : World} {B bv : Nat} {l : List Ext} (h : Held w B bv l) (hb : Below w.heap.size w w') : Held w' B bv l := by
  obtain ⟨v, n, h1, h2⟩ := h.row
  exact ⟨h.new, v, n, h1.keep hb, own_keep h2 hb⟩
theorem Held.drew {w : World} {B bv : Nat} {l : List Ext} (h : Held w B bv l) : Held w.drew B bv l := ⟨h.new, h.row⟩
theorem Held.drewN {w : World} {B bv : Nat} {l : List Ext} (h : Held w B bv l) (k : Nat) : Held (w.drewN k) B bv l := ⟨h.new, h.row⟩
theorem own_nex {w : World} {B bv n : Nat} {v u : Value} {l : List Ext} (h : Blk w bv 22 #[u]) (k : Eo w B v n l) : v.ownBlock ≠ some bv := by
  rcases k.2 with ⟨rfl, _⟩ | ⟨g, cap, cur, rfl, _, hh, _⟩
  · intro e; cases e
  · intro e
    injection e with e
    subst e
    have h : w.heap[g]? = _ := h
    rw [hh] at h
    simp at h
theorem own_from {w : World} {B n : Nat} {v : Value} {l : List Ext} (k : Eo w B v n l) : ∀ j, v.ownBlock = some j → B ≤ j := fun j hj => (k.lt j hj).1
theorem hold_new {w w2 : World} {B bv n' : Nat} {v' : Value} {l' : List Ext} (hB : B ≤ bv) {cs : Array Value} (hs : cs.size = 1) (h : Blk w2 bv 22 cs) (k : Eo w2 B v' n' l') (hne : v'.ownBlock ≠ some bv) : Held (w2.setCell ⟨bv, 0, none⟩ v') B bv l' := by
  refine ⟨hB, v', n', ?_, ownsRow_setCell_other k hne _⟩
  have := h.setCell 0 v'
  obtain ⟨c, hc⟩ : ∃ c, cs = #[c] := by
    obtain ⟨cl⟩ := cs
    match cl, hs with
    | [c], _ => exact ⟨c, rfl⟩
  subst hc
  exact this

section
variable (w : World)
end
end Go.Proofs.Ytfdfjnepfgabaaa

set_option linter.all false
namespace Go.Proofs.Ytfdfjnepfgabaaa
open Go.RowKit

theorem clip_may {x y : Ext} {a b : Int} (hx : x.may = true) (h : clip x a b = some y) : y.may = true := by
  have := may_len hx
  obtain ⟨h1, h2, h3, h4, h5⟩ := clip_some h
  exact may_of (by omega)
theorem clip_is {x : Ext} {a b lo hi : Int} (hl : max x.off a = lo) (hh : min (x.off + x.len) b = hi) (h : lo < hi) : clip x a b = some ⟨lo, hi - lo, x.phys + lo - x.off, x.birth⟩ := by
  unfold clip
  rw [hl, hh, if_pos h]
theorem clip_not {x : Ext} {a b lo hi : Int} (hl : max x.off a = lo) (hh : min (x.off + x.len) b = hi) (h : ¬ lo < hi) : clip x a b = none := by
  unfold clip
  rw [hl, hh, if_neg h]
/-- What a closure does with what it is handed. -/
def Does (F : FuncId) (B bv : Nat) (push : List Ext → Ext → List Ext) : Prop :=
  ∀ (w : World) (l : List Ext) (x : Ext), Held w B bv l → B ≤ w.heap.size → l.length ≤ 100000 → mays l → x.may = true →
    Calls Try.prog F #[.agg #[.int .i64 x.off, .int .i64 x.len, .int .i64 x.phys, .int .i64 x.birth], .pointer (some ⟨bv, 0, none⟩)] w fun e w' => e = .returned (.tuple #[]) ∧ Held w' B bv (push l x) ∧ Below B w w'
/-- A list, as it is laid on: all may be, and it has no more than so many. -/
structure Laid (w : World) (B bv : Nat) (l : List Ext) (m : Nat) : Prop where
  held : Held w B bv l
  mays : mays l
  len : l.length ≤ m

section
variable (w0 : World)
end
end Go.Proofs.Ytfdfjnepfgabaaa

set_option linter.all false
namespace Go.Proofs.Ytfdfjnepfgabaaa
open Go.RowKit

theorem right_short {l : List Ext} (h : rightB l = true) : l.length ≤ 1024 := by
  have := list_short (right_is.1 h).1 (by omega)
  omega
theorem mays_list {l : List Ext} (h : listB l = true) : mays l := fun x hx => (listFrom_mem (lo := 0) h x hx).1
theorem mays_right {l : List Ext} (h : rightB l = true) : mays l := mays_list (right_is.1 h).1
theorem mays_app {l x} (h : mays l) (hx : Ext.may x = true) : mays (appL l x) := mays_snoc h hx
theorem app_length (l : List Ext) (x : Ext) : (appL l x).length ≤ l.length + 1 := by simp [appL]
theorem fold_put (l : List Ext) (x : Ext) : (partL l (x.off + x.len) 1024).foldl pushL (pushL ((partL l 0 x.off).foldl pushL []) x) = putL l x := by
  unfold putL
  rw [← fold_join, List.foldl_append, List.foldl_cons]
theorem fold_cut (l : List Ext) (off n : Int) : (partL l (off + n) 1024).foldl appL ((partL l 0 off).foldl appL []) = cutL l off n := by
  rw [fold_app, fold_app]; rfl
theorem range_is {o n : Int} : rangeB o n = true ↔ 0 ≤ o ∧ 1 ≤ n ∧ n ≤ 1024 - o := by
  simp only [rangeB, Bool.and_eq_true, decide_eq_true_eq]
  omega
/-- A variable for a list, as it is made. -/
theorem held_new (w : World) (B : Nat) (hB : B ≤ w.heap.size) {g : Nat} (hg : g = w.heap.size) : Held (w.alloc (.cells #[.slice none 0 0] 22)) B g [] := by
  subst hg
  exact ⟨hB, .slice none 0 0, 0, Blk.new w _ _ rfl, eo_nil _ _⟩
theorem Laid.wide {w : World} {B bv : Nat} {l : List Ext} {m m' : Nat} (h : Laid w B bv l m) (hm : m ≤ m') : Laid w B bv l m' := ⟨h.held, h.mays, Nat.le_trans h.len hm⟩

section
variable (w : World)
end
end Go.Proofs.Ytfdfjnepfgabaaa

set_option linter.all false
namespace Go.Proofs.Ytfdfjnepfgabaaa
open Go.RowKit

/-- What At answers. -/
def atV : Option (Int × Int) → Array Value
  | none => #[.int .i64 0, .int .i64 0, .bool false]
  | some (p, b) => #[.int .i64 p, .int .i64 b, .bool true]
/-- A row of the call's own, as it is laid on. -/
structure Own (w : World) (B : Nat) (v : Value) (l : List Ext) (m : Nat) : Prop where
  row : ∃ n, Eo w B v n l
  mays : mays l
  len : l.length ≤ m
theorem since_cons (x : Ext) (l : List Ext) (b : Int) : sinceL (x :: l) b = if b < x.birth then x :: sinceL l b else sinceL l b := by
  unfold sinceL
  rw [List.filter_cons]
  simp

section
variable (w : World)
end
end Go.Proofs.Ytfdfjnepfgabaaa
