/- XEmpC, XEmpD, XEmpE, XEmpF. -/
import Derived.Test.YtfcfffilfmbpeaaEmpB
import Derived.Test.YtfcfffilfmbpeaaStep
import Derived.Deep.DeepCutAuto
import Derived.Deep.CutBlock
set_option linter.all false
namespace Go.Proofs.Ytfcfffilfmbpeaa
open Go.RowKit

/-! ### one extent laid behind a list -/
def pushL (l : List Ext) (x : Ext) : List Ext := match l.getLast? with
  | some y => if oneB y x then l.dropLast ++ [{ y with len := y.len + x.len }] else l ++ [x]
  | none => [x]
theorem push_nil (x : Ext) : pushL [] x = [x] := rfl
theorem push_snoc (p : List Ext) (y x : Ext) : pushL (p ++ [y]) x = if oneB y x then p ++ [{ y with len := y.len + x.len }] else p ++ [y] ++ [x] := by
  unfold pushL
  simp
theorem fold_push : ∀ (l p : List Ext) (y : Ext), l.foldl pushL (p ++ [y]) = p ++ joinIn y l
  | [], p, y => rfl
  | x :: l, p, y => by
    rw [List.foldl_cons, push_snoc]
    unfold joinIn
    by_cases h : oneB y x = true
    · rw [if_pos h, if_pos h, fold_push l]
    · rw [if_neg h, if_neg h, fold_push l]
      simp
theorem fold_join (l : List Ext) : l.foldl pushL [] = joinL l := by
  cases l with
  | nil => rfl
  | cons x l => exact fold_push l [] x
/-- All may be. -/
def mays (l : List Ext) : Prop := ∀ x ∈ l, x.may = true
theorem mays_nil : mays [] := by simp [mays]
theorem mays_snoc {l : List Ext} {x : Ext} (h : mays l) (hx : x.may = true) : mays (l ++ [x]) := by
  intro y hy
  rcases List.mem_append.1 hy with hy | hy
  · exact h y hy
  · rw [List.mem_singleton.1 hy]; exact hx
theorem snoc_cases {α : Type} (l : List α) : l = [] ∨ ∃ p y, l = p ++ [y] := by
  rcases List.eq_nil_or_concat l with h | ⟨p, y, h⟩
  · exact .inl h
  · exact .inr ⟨p, y, by simpa using h⟩
theorem mays_push {l : List Ext} {x : Ext} (h : mays l) (hx : x.may = true) : mays (pushL l x) := by
  rcases snoc_cases l with rfl | ⟨p, y, rfl⟩
  · rw [push_nil]; exact mays_snoc mays_nil hx
  · rw [push_snoc]
    split
    · rename_i ho
      have hy := may_len (h y (by simp))
      have hx := may_len hx
      obtain ⟨o1, o2, o3⟩ := one_is ho
      refine mays_snoc (fun z hz => h z (by simp [hz])) (may_of (by simp only; omega))
    · exact mays_snoc h hx
theorem push_length (l : List Ext) (x : Ext) : (pushL l x).length ≤ l.length + 1 := by
  rcases snoc_cases l with rfl | ⟨p, y, rfl⟩
  · rw [push_nil]; simp
  · rw [push_snoc]
    split <;> simp
def appL (l : List Ext) (x : Ext) : List Ext := l ++ [x]
theorem fold_app : ∀ (l p : List Ext), l.foldl appL p = p ++ l
  | [], p => by simp
  | x :: l, p => by rw [List.foldl_cons, fold_app l]; simp [appL]
theorem mays_fit {l : List Ext} (h : mays l) : ∀ x ∈ l, Fit x := fun x hx => fit_of (h x hx)

/-! ### lists that the call made -/
/-- v is a row of the call's own, in new memory from base on, and reads as l. -/
abbrev Eo (w : World) (base : Nat) (v : Value) (n : Nat) (l : List Ext) : Prop := w.ownsRow base 77 4 v n (evs l)
theorem eo_len {w : World} {base : Nat} {v : Value} {n : Nat} {l : List Ext} (h : Eo w base v n l) : n = l.length := by have := h.1; rw [evs_len] at this; omega
theorem eo_es {w : World} {base : Nat} {A : Option Addr} {n c : Nat} {l : List Ext} (h : Eo w base (.slice A n c) n l) (hf : ∀ x ∈ l, Fit x) : Es w A n l := ⟨rd_own h, hf⟩
theorem eo_nil (w : World) (base : Nat) : Eo w base (.slice none 0 0) 0 [] := own_nil w base _ 4
theorem eo_of {w : World} {base : Nat} {v : Value} {n : Nat} {xs : List Value} {l : List Ext} (h : w.ownsRow base 77 4 v n xs) (e : xs = evs l) : Eo w base v n l := by subst e; exact h
theorem grown_drewR {a b : World} {row : Option Nat} (h : a.grownBy b row) : a.grownBy b.drew row := ⟨h.os, h.tape, h.output, h.size, h.block⟩
theorem evs_one (l : List Ext) : ∀ u ∈ evs l, u.oneCell' = true := by
  intro u hu
  obtain ⟨x, _, hx⟩ := List.mem_flatMap.1 hu
  simp only [ev, List.mem_cons, List.not_mem_nil, or_false] at hx
  rcases hx with rfl | rfl | rfl | rfl <;> rfl
theorem evs_snoc (l : List Ext) (x : Ext) : evs (l ++ [x]) = evs l ++ ev x := by rw [evs_app]; simp [evs]
theorem rd_one {w : World} {x : Ext} {g : Nat} {t : TypeId} (hg : g = w.heap.size) : Rd (w.alloc (.cells #[.int .i64 x.off, .int .i64 x.len, .int .i64 x.phys, .int .i64 x.birth] t)) (some ⟨g, 0, none⟩) 4 1 (ev x) := by
  subst hg
  exact Rd.new w #[.int .i64 x.off, .int .i64 x.len, .int .i64 x.phys, .int .i64 x.birth] t (0, 0) rfl
/-- The last extent's length, written over. -/
theorem eo_set {w : World} {base : Nat} {v : Value} {n : Nat} {p : List Ext} {y : Ext} (h : Eo w base v n (p ++ [y])) : ∃ g cap cur, v = .slice (some ⟨g, 0, none⟩) n cap ∧ n ≤ cap ∧ cap ≤ maxLen ∧ base ≤ g ∧ n = p.length + 1 ∧ Blk w g 77 cur ∧
    w.cell? ⟨g, p.length * 4, none⟩ = some (.int .i64 y.off) ∧ w.cell? ⟨g, p.length * 4 + 1, none⟩ = some (.int .i64 y.len) ∧ w.cell? ⟨g, p.length * 4 + 2, none⟩ = some (.int .i64 y.phys) ∧ w.cell? ⟨g, p.length * 4 + 3, none⟩ = some (.int .i64 y.birth) ∧
    w.frozen? ⟨g, p.length * 4 + 1, none⟩ = false ∧
    ∀ z : Int, Eo (w.setCell ⟨g, p.length * 4 + 1, none⟩ (.int .i64 z)) base v n (p ++ [{ y with len := z }]) := by
  have hl := eo_len h
  rw [List.length_append, List.length_singleton] at hl
  rcases h.2 with ⟨_, h0⟩ | ⟨g, cap, cur, rfl, hg, hh, hnc, hcm, hcs, hx⟩
  · omega
  have hb : Blk w g 77 cur := hh
  have hc : ∀ j (u : Value), (ev y)[j]? = some u → w.cell? ⟨g, p.length * 4 + j, none⟩ = some u := fun j u hu => by
    refine hb.cell ?_
    have h1 : (evs (p ++ [y]))[p.length * 4 + j]? = some u := by
      rw [evs_snoc, List.getElem?_append_right (by rw [evs_len]; omega), evs_len, Nat.add_sub_cancel_left]
      exact hu
    rw [← hx, List.getElem?_take] at h1
    split at h1
    · simpa using h1
    · cases h1
  refine ⟨g, cap, cur, rfl, hnc, hcm, hg, hl, hb, hc 0 _ rfl, hc 1 _ rfl, hc 2 _ rfl, hc 3 _ rfl, hb.free _, fun z => ⟨?_, .inr ⟨g, cap, cur.setIfInBounds (p.length * 4 + 1) (.int .i64 z), rfl, hg, hb.setCell _ _, hnc, hcm, by simp [hcs], ?_⟩⟩⟩
  · rw [evs_len]; simp [hl]
  · rw [Array.toList_setIfInBounds, List.take_set, hx, evs_snoc, evs_snoc, List.set_append_right _ _ (by rw [evs_len]; omega), evs_len, Nat.add_sub_cancel_left]
    rfl
theorem info_ext : (Try.prog.info? 77).map (fun i => (i.zero, i.size, i.bytes)) = some (some (.agg #[.int .i64 0, .int .i64 0, .int .i64 0, .int .i64 0]), 4, 32) := by kernel_rfl
theorem ext_info : ∃ i, Try.prog.info? 77 = some i ∧ i.zero = some (.agg #[.int .i64 0, .int .i64 0, .int .i64 0, .int .i64 0]) ∧ i.size = 4 ∧ i.bytes = 32 := by
  obtain ⟨i, hi, he⟩ := Option.map_eq_some_iff.1 info_ext
  simp only [Prod.mk.injEq] at he
  exact ⟨i, hi, he.1, he.2.1, he.2.2⟩

section
variable (w : World)
set_option maxRecDepth 100000 in
set_option maxHeartbeats 2000000 in
theorem join_ (base : Nat) (v : Value) (n : Nat) (l : List Ext) (x : Ext) (h : Eo w base v n l) (hb : base ≤ w.heap.size) (hn : n ≤ 100000) (hm : mays l) (hx : x.may = true) :
    Calls Try.prog 83 #[v, .agg #[.int .i64 x.off, .int .i64 x.len, .int .i64 x.phys, .int .i64 x.birth]] w fun e w' => ∃ v' n', e = .returned v' ∧ Eo w' base v' n' (pushL l x) ∧ After w v w' v' := by
  obtain ⟨i0, hi0, hz0, hz1, hz2⟩ := ext_info
  have Hz := Lib.hid hz2
  clear hz2
  have hxl := may_len hx
  have fx := fit_of hx
  obtain ⟨fo, fl, fp, fb⟩ := fx.all
  have hac := Blk.new w 77 #[.int .i64 x.off, .int .i64 x.len, .int .i64 x.phys, .int .i64 x.birth] rfl
  have hba : Below w.heap.size w (w.alloc (.cells #[.int .i64 x.off, .int .i64 x.len, .int .i64 x.phys, .int .i64 x.birth] 77)) := (Below.refl _ _).alloc (Nat.le_refl _) _
  have hown := own_keep h hba
  rcases snoc_cases l with rfl | ⟨p, y, rfl⟩
  · have hn0 : n = 0 := eo_len h
    subst hn0
    obtain ⟨A, c, rfl, hc, hcm, hA⟩ := own_form h
    go_enter Try.func83, Try.ntmps83
    go_wp2_with fail
    clear h
    have hs1 : (w.alloc (.cells #[.int .i64 x.off, .int .i64 x.len, .int .i64 x.phys, .int .i64 x.birth] 77)).heap.size = w.heap.size + 1 := by simp
    generalize (w.alloc (.cells #[.int .i64 x.off, .int .i64 x.len, .int .i64 x.phys, .int .i64 x.birth] 77)) = w1 at *
    go_quiet (fail)
    have d0 : (w1.drewN nq).cell? ⟨w.heap.size, 0, none⟩ = some (.int .i64 x.off) := hac.cell rfl
    have d1 : (w1.drewN nq).cell? ⟨w.heap.size, 1, none⟩ = some (.int .i64 x.len) := hac.cell rfl
    have d2 : (w1.drewN nq).cell? ⟨w.heap.size, 2, none⟩ = some (.int .i64 x.phys) := hac.cell rfl
    have d3 : (w1.drewN nq).cell? ⟨w.heap.size, 3, none⟩ = some (.int .i64 x.birth) := hac.cell rfl
    have hownD : Eo (w1.drewN nq) base (.slice A 0 c) 0 [] := hown
    have hbD : Below w.heap.size w (w1.drewN nq) := below_drewN hba nq
    have hsD : (w1.drewN nq).heap.size = w.heap.size + 1 := hs1
    generalize w1.drewN nq = w2 at *
    go_wp2_with (first
      | (at_builtin
         go_must (refine wpList_app _ rfl (.tmp 30) (.tmp 32) _ rfl base 77 i0 _ 4 32 Try.underlying90 hi0 hz0 hz1 Hz.out rfl (by decide) _ 0 _ rfl (own_keep hownD ((Below.refl _ _).alloc (Nat.le_refl _) _)) _ 1 1 (ev x) rfl (fun h => by cases h) (rd_one hsD.symm) (by intro u hu; exact evs_one [x] u (by simpa [evs] using hu)) (by unfold maxLen; omega) (by omega) (by simp; omega) ?_)
         intro v3 w3 hown3 hg3 hat3))
    go_ret
    have e : evs (pushL [] x) = evs [] ++ ev x := by simp [push_nil, evs]
    refine ⟨v3, 0 + 1, rfl, eo_of hown3 e.symm, grown_step (below_grown (hbD.alloc hbD.size _) _) hg3 (fun j hj => .inr hj), hat3.imp id fun e => ⟨_, e, by simp; omega⟩⟩
  · obtain ⟨g, cap, cur, rfl, hnc, hcm, hbg, hnm, hblk, c0, c1, c2, c3, c4, hset⟩ := eo_set hown
    have hnear := near_of (hm y (by simp)) fx
    have hys := may_len (hm y (by simp))
    have Hp := Lib.hid (push_snoc p y x)
    generalize hmp : p.length = m at *
    have Hmp := Lib.hid hmp
    have hw1 : IntKind.i64.wrap ((n : Int) - 1) = (m : Int) := by rw [IntKind.wrap_i64]; omega
    have hm0 : (0 : Int) ≤ (m : Int) := by omega
    have hmn : (m : Int) < (n : Int) := by omega
    have hw2 : IntKind.i64.wrap (y.len + x.len) = y.len + x.len := by rw [IntKind.wrap_i64]; omega
    have Hnm := Lib.hid hnm
    clear hnm hmp
    cases ho : oneB y x with
    | true =>
      go_enter Try.func83, Try.ntmps83
      go_wp2_with fail
      clear h
      have hs1 : (w.alloc (.cells #[.int .i64 x.off, .int .i64 x.len, .int .i64 x.phys, .int .i64 x.birth] 77)).heap.size = w.heap.size + 1 := by simp
      generalize (w.alloc (.cells #[.int .i64 x.off, .int .i64 x.len, .int .i64 x.phys, .int .i64 x.birth] 77)) = w1 at *
      have d0 := hac.cell (j := 0) (u := .int .i64 x.off) rfl
      have d1 := hac.cell (j := 1) (u := .int .i64 x.len) rfl
      have d2 := hac.cell (j := 2) (u := .int .i64 x.phys) rfl
      have d3 := hac.cell (j := 3) (u := .int .i64 x.birth) rfl
      go_region_held3 (fun w' => w'.cell? ⟨g, m * 4, none⟩ = some (.int .i64 y.off) ∧ w'.cell? ⟨g, m * 4 + 1, none⟩ = some (.int .i64 y.len) ∧ w'.cell? ⟨g, m * 4 + 2, none⟩ = some (.int .i64 y.phys) ∧ w'.cell? ⟨g, m * 4 + 3, none⟩ = some (.int .i64 y.birth) ∧
          w'.cell? ⟨w.heap.size, 0, none⟩ = some (.int .i64 x.off) ∧ w'.cell? ⟨w.heap.size, 1, none⟩ = some (.int .i64 x.len) ∧ w'.cell? ⟨w.heap.size, 2, none⟩ = some (.int .i64 x.phys) ∧ w'.cell? ⟨w.heap.size, 3, none⟩ = some (.int .i64 x.birth))
        (first | go_keep | exact ⟨c0, c1, c2, c3, d0, d1, d2, d3⟩ | exact ⟨(hb2.cell (cell_lt c0)).trans c0, (hb2.cell (cell_lt c1)).trans c1, (hb2.cell (cell_lt c2)).trans c2, (hb2.cell (cell_lt c3)).trans c3, (hb2.cell (cell_lt d0)).trans d0, (hb2.cell (cell_lt d1)).trans d1, (hb2.cell (cell_lt d2)).trans d2, (hb2.cell (cell_lt d3)).trans d3⟩)
        (first
          | (go_at_call 75; refine (one_ _ y x hnear).mono ?_; rw [ho]; rintro e w2 ⟨rfl, hb2⟩))
      have hown2 : Eo w2 base (.slice (some ⟨g, 0, none⟩) n cap) n (p ++ [y]) := own_keep (w := w1.drew) hown hb2
      obtain ⟨g', cap', cur', e', -, -, -, -, hblk2, k0, k1, k2, k3, k4, hset2⟩ := eo_set hown2
      rw [Hmp.out] at k0 k1 k2 k3 k4 hset2
      injection e' with e' _ e3
      injection e' with e'
      injection e' with e1
      subst e1 e3
      have m1 := (hb2.cell (cell_lt d1)).trans d1
      clear c0 c1 c2 c3 c4 d0 d1 d2 d3 hset
      go_wp2
      go_region
      go_wp2
      go_ret
      have hB2 : Below w.heap.size w w2 := below_step hba (below_undrew hb2) (Nat.le_refl _)
      refine ⟨.slice (some ⟨g, 0, none⟩) n cap, n, rfl, ?_, grown_step (below_grown hB2 _) (grown_drewR (grown_setCell w2 ⟨g, m * 4 + 1, none⟩ (.int .i64 (y.len + x.len)))) (fun j hj => .inr hj), .inl rfl⟩
      rw [Hp.out, ho]
      exact hset2 _
    | false =>
      go_enter Try.func83, Try.ntmps83
      go_wp2_with fail
      clear h hset
      have hs1 : (w.alloc (.cells #[.int .i64 x.off, .int .i64 x.len, .int .i64 x.phys, .int .i64 x.birth] 77)).heap.size = w.heap.size + 1 := by simp
      generalize (w.alloc (.cells #[.int .i64 x.off, .int .i64 x.len, .int .i64 x.phys, .int .i64 x.birth] 77)) = w1 at *
      have d0 := hac.cell (j := 0) (u := .int .i64 x.off) rfl
      have d1 := hac.cell (j := 1) (u := .int .i64 x.len) rfl
      have d2 := hac.cell (j := 2) (u := .int .i64 x.phys) rfl
      have d3 := hac.cell (j := 3) (u := .int .i64 x.birth) rfl
      go_region_held3 (fun w' => w'.cell? ⟨g, m * 4, none⟩ = some (.int .i64 y.off) ∧ w'.cell? ⟨g, m * 4 + 1, none⟩ = some (.int .i64 y.len) ∧ w'.cell? ⟨g, m * 4 + 2, none⟩ = some (.int .i64 y.phys) ∧ w'.cell? ⟨g, m * 4 + 3, none⟩ = some (.int .i64 y.birth) ∧
          w'.cell? ⟨w.heap.size, 0, none⟩ = some (.int .i64 x.off) ∧ w'.cell? ⟨w.heap.size, 1, none⟩ = some (.int .i64 x.len) ∧ w'.cell? ⟨w.heap.size, 2, none⟩ = some (.int .i64 x.phys) ∧ w'.cell? ⟨w.heap.size, 3, none⟩ = some (.int .i64 x.birth))
        (first | go_keep | exact ⟨c0, c1, c2, c3, d0, d1, d2, d3⟩ | exact ⟨(hb2.cell (cell_lt c0)).trans c0, (hb2.cell (cell_lt c1)).trans c1, (hb2.cell (cell_lt c2)).trans c2, (hb2.cell (cell_lt c3)).trans c3, (hb2.cell (cell_lt d0)).trans d0, (hb2.cell (cell_lt d1)).trans d1, (hb2.cell (cell_lt d2)).trans d2, (hb2.cell (cell_lt d3)).trans d3⟩)
        (first
          | (go_at_call 75; refine (one_ _ y x hnear).mono ?_; rw [ho]; rintro e w2 ⟨rfl, hb2⟩))
      have hown2 : Eo w2 base (.slice (some ⟨g, 0, none⟩) n cap) n (p ++ [y]) := own_keep (w := w1.drew) hown hb2
      have m0 := (hb2.cell (cell_lt d0)).trans d0
      have m1 := (hb2.cell (cell_lt d1)).trans d1
      have m2 := (hb2.cell (cell_lt d2)).trans d2
      have m3 := (hb2.cell (cell_lt d3)).trans d3
      have hB2 : Below w.heap.size w w2 := below_step hba (below_undrew hb2) (Nat.le_refl _)
      have hs2 := hB2.size
      clear c0 c1 c2 c3 c4 d0 d1 d2 d3
      go_wp2_with (first
        | (at_builtin
           go_must (refine wpList_app _ rfl (.tmp 30) (.tmp 32) _ rfl base 77 i0 _ 4 32 Try.underlying90 hi0 hz0 hz1 Hz.out rfl (by decide) _ n _ rfl (own_keep hown2 ((Below.refl _ _).alloc (Nat.le_refl _) _)) _ 1 1 (ev x) rfl (fun h => by cases h) (rd_one rfl) (by intro u hu; exact evs_one [x] u (by simpa [evs] using hu)) (by unfold maxLen; omega) (by omega) (by simp; omega) ?_)
           intro v3 w3 hown3 hg3 hat3))
      go_ret
      refine ⟨v3, n + 1, rfl, eo_of hown3 ?_, grown_step (below_grown (hB2.alloc hB2.size _) _) hg3 (fun j hj => .inr hj), hat3.imp id fun e => ⟨_, e, by simp; omega⟩⟩
      rw [Hp.out, ho]
      exact (evs_snoc _ _).symm
end
end Go.Proofs.Ytfcfffilfmbpeaa

set_option linter.all false
namespace Go.Proofs.Ytfcfffilfmbpeaa
open Go.RowKit

/-- Variable bv, and the list in it, are the call's own, in new memory from B on. -/
structure Held (w : World) (B bv : Nat) (l : List Ext) : Prop where
  new : B ≤ bv
  row : ∃ v n, Blk w bv 90 #[v] ∧ Eo w B v n l
theorem Held.keep {w w' : World} {B bv : Nat} {l : List Ext} (h : Held w B bv l) (hb : Below w.heap.size w w') : Held w' B bv l := by
  obtain ⟨v, n, h1, h2⟩ := h.row
  exact ⟨h.new, v, n, h1.keep hb, own_keep h2 hb⟩
theorem Held.drew {w : World} {B bv : Nat} {l : List Ext} (h : Held w B bv l) : Held w.drew B bv l := ⟨h.new, h.row⟩
theorem Held.drewN {w : World} {B bv : Nat} {l : List Ext} (h : Held w B bv l) (k : Nat) : Held (w.drewN k) B bv l := ⟨h.new, h.row⟩
theorem own_nex {w : World} {B bv n : Nat} {v u : Value} {l : List Ext} (h : Blk w bv 90 #[u]) (k : Eo w B v n l) : v.ownBlock ≠ some bv := by
  rcases k.2 with ⟨rfl, _⟩ | ⟨g, cap, cur, rfl, _, hh, _⟩
  · intro e; cases e
  · intro e
    injection e with e
    subst e
    have h : w.heap[g]? = _ := h
    rw [hh] at h
    simp at h
theorem own_from {w : World} {B n : Nat} {v : Value} {l : List Ext} (k : Eo w B v n l) : ∀ j, v.ownBlock = some j → B ≤ j := fun j hj => (k.lt j hj).1
theorem hold_new {w w2 : World} {B bv n' : Nat} {v' : Value} {l' : List Ext} (hB : B ≤ bv) {cs : Array Value} (hs : cs.size = 1) (h : Blk w2 bv 90 cs) (k : Eo w2 B v' n' l') (hne : v'.ownBlock ≠ some bv) : Held (w2.setCell ⟨bv, 0, none⟩ v') B bv l' := by
  refine ⟨hB, v', n', ?_, ownsRow_setCell_other k hne _⟩
  have := h.setCell 0 v'
  obtain ⟨c, hc⟩ : ∃ c, cs = #[c] := by
    obtain ⟨cl⟩ := cs
    match cl, hs with
    | [c], _ => exact ⟨c, rfl⟩
  subst hc
  exact this

section
variable (w : World)
set_option maxRecDepth 100000 in
set_option maxHeartbeats 1000000 in
theorem keep_ (B bv : Nat) (l : List Ext) (x : Ext) (h : Held w B bv l) (hB : B ≤ w.heap.size) (hn : l.length ≤ 100000) (hm : mays l) (hx : x.may = true) :
    Calls Try.prog 82 #[.agg #[.int .i64 x.off, .int .i64 x.len, .int .i64 x.phys, .int .i64 x.birth], .pointer (some ⟨bv, 0, none⟩)] w fun e w' => e = .returned (.tuple #[]) ∧ Held w' B bv (pushL l x) ∧ Below B w w' := by
  obtain ⟨hbv, v, n, hv, ho⟩ := h
  have hba : Below w.heap.size w (w.alloc (.cells #[.int .i64 x.off, .int .i64 x.len, .int .i64 x.phys, .int .i64 x.birth] 77)) := (Below.refl _ _).alloc (Nat.le_refl _) _
  have hs1 : (w.alloc (.cells #[.int .i64 x.off, .int .i64 x.len, .int .i64 x.phys, .int .i64 x.birth] 77)).heap.size = w.heap.size + 1 := by simp
  have hv1 := hv.keep hba
  have ho1 := own_keep ho hba
  have hne := own_nex hv1 ho1
  have hlt := hv.lt
  have c0 := hv.cell (j := 0) (u := v) rfl
  have hl := eo_len ho
  rw [← hl] at hn
  have Hl := Lib.hid hl
  clear hl ho
  go_enter Try.func82, Try.ntmps82
  go_wp2_with fail
  generalize (w.alloc (.cells #[.int .i64 x.off, .int .i64 x.len, .int .i64 x.phys, .int .i64 x.birth] 77)) = w1 at *
  refine (join_ w1 B v n l x ho1 (by omega) hn hm hx).mono ?_
  rintro e w2 ⟨v2, n2, rfl, ho2, haf⟩
  have hv2 := hv1.grown haf.1 (fun e => hne e.symm)
  have hne2 : v2.ownBlock ≠ some bv := by
    rcases haf.2 with e | ⟨g, e, hg⟩
    · rw [e]; exact hne
    · rw [e]; intro e'; injection e' with e'; omega
  have c2 := hv2.cell (j := 0) (u := v) rfl
  have f2 := hv2.free 0
  have hH := hold_new (w := w) hbv rfl hv2 ho2 hne2
  have hB2 : Below B w w2 := (hba.mono hB).trans (haf.below (by omega) (own_from ho1))
  clear hv hv1 ho1 hne c0
  obtain ⟨A2, cc, rfl, -, -, -⟩ := own_form ho2
  go_wp2
  go_end0
  exact ⟨rfl, hH, hB2.setCell hbv _⟩

set_option maxRecDepth 100000 in
set_option maxHeartbeats 1000000 in
theorem cutf_ (B bv : Nat) (l : List Ext) (x : Ext) (h : Held w B bv l) (hB : B ≤ w.heap.size) (hn : l.length ≤ 100000) (hm : mays l) (hx : x.may = true) :
    Calls Try.prog 79 #[.agg #[.int .i64 x.off, .int .i64 x.len, .int .i64 x.phys, .int .i64 x.birth], .pointer (some ⟨bv, 0, none⟩)] w fun e w' => e = .returned (.tuple #[]) ∧ Held w' B bv (appL l x) ∧ Below B w w' := by
  obtain ⟨i0, hi0, hz0, hz1, hz2⟩ := ext_info
  have Hz := Lib.hid hz2
  clear hz2
  obtain ⟨hbv, v, n, hv, ho⟩ := h
  have hba : Below w.heap.size w (w.alloc (.cells #[.int .i64 x.off, .int .i64 x.len, .int .i64 x.phys, .int .i64 x.birth] 77)) := (Below.refl _ _).alloc (Nat.le_refl _) _
  have hv1 := hv.keep hba
  have ho1 := own_keep ho hba
  have hlt := hv.lt
  have hl := eo_len ho
  rw [← hl] at hn
  have Hl := Lib.hid hl
  clear hl ho
  have c0 := hv.cell (j := 0) (u := v) rfl
  have hb1 : Below (w.heap.size + 1) (w.alloc (.cells #[.int .i64 x.off, .int .i64 x.len, .int .i64 x.phys, .int .i64 x.birth] 77)) ((w.alloc (.cells #[.int .i64 x.off, .int .i64 x.len, .int .i64 x.phys, .int .i64 x.birth] 77)).alloc (.cells #[.int .i64 x.off, .int .i64 x.len, .int .i64 x.phys, .int .i64 x.birth] 77)) := (Below.refl _ _).alloc (by simp) _
  have hv2 := hv1.below hb1 (by omega)
  have ho2 := own_keep ho1 (hb1.mono (by simp))
  have hne := own_nex hv2 ho2
  go_enter Try.func79, Try.ntmps79
  go_wp2_with (first
    | (at_builtin
       go_must (refine wpList_app _ rfl (.tmp 3) (.tmp 5) _ rfl B 77 i0 _ 4 32 Try.underlying90 hi0 hz0 hz1 Hz.out rfl (by decide) v n _ rfl ho2 _ 1 1 (ev x) rfl (fun h => by cases h) (rd_one (by simp)) (by intro u hu; exact evs_one [x] u (by simpa [evs] using hu)) (by unfold maxLen; omega) (by omega) (by simp; omega) ?_)
       intro v3 w3 hown3 hg3 hat3
       have ho3 : Eo w3 B v3 (n + 1) (appL l x) := eo_of hown3 (evs_snoc _ _).symm
       have hv3 := hv2.grown hg3 (fun e => hne e.symm)
       have hne3 : v3.ownBlock ≠ some bv := by
         rcases hat3 with e | e
         · rw [e]; exact hne
         · rw [e]; intro e'; injection e' with e'; simp at e'; omega
       have c3 := hv3.cell (j := 0) (u := v) rfl
       have f3 := hv3.free 0
       have hH := hold_new (w := w) hbv rfl hv3 ho3 hne3
       have hB3 : Below B w w3 := ((hba.mono hB).trans (hb1.mono (by omega))).grown hg3 (by simp; omega) (own_from ho2)
       obtain ⟨A3, cc, rfl, -, -, -⟩ := own_form ho3))
  go_end0
  exact ⟨rfl, hH, hB3.setCell hbv _⟩

end
end Go.Proofs.Ytfcfffilfmbpeaa

set_option linter.all false
namespace Go.Proofs.Ytfcfffilfmbpeaa
open Go.RowKit

theorem clip_may {x y : Ext} {a b : Int} (hx : x.may = true) (h : clip x a b = some y) : y.may = true := by
  have := may_len hx
  obtain ⟨h1, h2, h3, h4, h5⟩ := clip_some h
  exact may_of (by omega)
theorem clip_is {x : Ext} {a b lo hi : Int} (hl : max x.off a = lo) (hh : min (x.off + x.len) b = hi) (h : lo < hi) : clip x a b = some ⟨lo, hi - lo, x.phys + lo - x.off, x.birth⟩ := by
  unfold clip
  rw [hl, hh, if_pos h]
theorem clip_not {x : Ext} {a b lo hi : Int} (hl : max x.off a = lo) (hh : min (x.off + x.len) b = hi) (h : ¬ lo < hi) : clip x a b = none := by
  unfold clip
  rw [hl, hh, if_neg h]
/-- What a closure does with what it is handed. -/
def Does (F : FuncId) (B bv : Nat) (push : List Ext → Ext → List Ext) : Prop :=
  ∀ (w : World) (l : List Ext) (x : Ext), Held w B bv l → B ≤ w.heap.size → l.length ≤ 100000 → mays l → x.may = true →
    Calls Try.prog F #[.agg #[.int .i64 x.off, .int .i64 x.len, .int .i64 x.phys, .int .i64 x.birth], .pointer (some ⟨bv, 0, none⟩)] w fun e w' => e = .returned (.tuple #[]) ∧ Held w' B bv (push l x) ∧ Below B w w'
/-- A list, as it is laid on: all may be, and it has no more than so many. -/
structure Laid (w : World) (B bv : Nat) (l : List Ext) (m : Nat) : Prop where
  held : Held w B bv l
  mays : mays l
  len : l.length ≤ m

section
variable (w0 : World)
set_option maxRecDepth 100000 in
set_option maxHeartbeats 2000000 in
theorem parts_put (bv : Nat) (push : List Ext → Ext → List Ext) (hf : Does 82 w0.heap.size bv push) (hp1 : ∀ l x, mays l → x.may = true → mays (push l x)) (hp2 : ∀ l x, (push l x).length ≤ l.length + 1)
    (A : Option Addr) (n c : Nat) (l : List Ext) (h : Es w0 A n l) (hm : mays l) (a b : Int) (ha : I64 a) (hbb : I64 b) (acc : List Ext) (m : Nat) (hmn : m + n ≤ 100000)
    (w : World) (hw : Below w0.heap.size w0 w) (hH : Laid w w0.heap.size bv acc m) :
    Calls Try.prog 80 #[.slice A n c, .int .i64 a, .int .i64 b, .func (.func 82) #[] #[.pointer (some ⟨bv, 0, none⟩)]] w fun e w' => e = .returned (.tuple #[]) ∧ Laid w' w0.heap.size bv ((partL l a b).foldl push acc) (m + n) ∧ Below w0.heap.size w0 w' := by
  have Hl := Lib.hid h.len
  unfold I64 at ha hbb
  go_enter Try.func80, Try.ntmps80
  go_wp2_with fail
  go_loopw [14] (fun iv wr => ∃ (k : Nat) (cur : List Ext), k ≤ n ∧ iv = .int .i64 (k : Int) ∧ Laid wr w0.heap.size bv cur (m + k) ∧ (partL (l.drop k) a b).foldl push cur = (partL l a b).foldl push acc ∧ Below w0.heap.size w0 wr) (fun iv _ => n - (intOf iv).toNat)
  case atStart => exact ⟨0, acc, Nat.zero_le _, rfl, hH, rfl, hw⟩
  case round =>
    obtain ⟨k, cur, hk, rfl, hL, hfold, hb⟩ := hrel
    clear hH hw
    by_cases hlt : k < n
    · have hil : (k : Int) < (n : Int) := by omega
      obtain ⟨q, o, rfl, x, hx, fx, c0, c1, c2, c3⟩ := (h.below hb).at_ hlt
      have hxm := hm x (List.mem_of_getElem? hx)
      have hxl := may_len hxm
      rw [drop_of hx, part_cons] at hfold
      have hac := Blk.new wr 77 #[.int .i64 x.off, .int .i64 x.len, .int .i64 x.phys, .int .i64 x.birth] rfl
      have hba : Below wr.heap.size wr (wr.alloc (.cells #[.int .i64 x.off, .int .i64 x.len, .int .i64 x.phys, .int .i64 x.birth] 77)) := (Below.refl _ _).alloc (Nat.le_refl _) _
      have hB1 := below_step hb hba (Nat.le_refl _)
      have hL1 := hL.held.keep hba
      obtain ⟨lo, hlo⟩ : ∃ lo, max x.off a = lo := ⟨_, rfl⟩
      obtain ⟨hi, hhi⟩ : ∃ hi, min (x.off + x.len) b = hi := ⟨_, rfl⟩
      have hwx : IntKind.i64.wrap (x.off + x.len) = x.off + x.len := by rw [IntKind.wrap_i64]; omega
      have hbs := hB1.size
      by_cases hlh : lo < hi
      · have hc := clip_is hlo hhi hlh
        have Hcm := Lib.hid (clip_may hxm hc)
        rw [hc] at hfold
        have Hf := Lib.hid hfold
        have hw1 : IntKind.i64.wrap (hi - lo) = hi - lo := by rw [IntKind.wrap_i64]; omega
        have hw2 : IntKind.i64.wrap (x.phys + lo) = x.phys + lo := by rw [IntKind.wrap_i64]; omega
        have hw3 : IntKind.i64.wrap (x.phys + lo - x.off) = x.phys + lo - x.off := by rw [IntKind.wrap_i64]; omega
        clear hc hfold h hb
        go_wp2_with fail
        go_region
        go_wp2_with fail
        refine (hf _ cur ⟨lo, hi - lo, x.phys + lo - x.off, x.birth⟩ hL1.drew hbs (by have := hL.len; omega) hL.mays Hcm.out).mono ?_
        rintro e w2 ⟨rfl, hH2, hB2⟩
        have hB2' := hB1.trans (below_undrew hB2)
        go_wp2
        go_roundw
        case rel => exact ⟨k + 1, _, by omega, by go_num, ⟨hH2, hp1 _ _ hL.mays Hcm.out, by have := hL.len; have := hp2 cur ⟨lo, hi - lo, x.phys + lo - x.off, x.birth⟩; omega⟩, Hf.out, hB2'⟩
        case measure => simp [intOf]; omega
      · have hc := clip_not hlo hhi hlh
        rw [hc] at hfold
        have Hf := Lib.hid hfold
        clear hc hfold h hb
        go_wp2_with fail
        go_region
        go_wp2
        go_roundw
        case rel => exact ⟨k + 1, cur, by omega, by go_num, ⟨hL1.drew, hL.mays, by have := hL.len; omega⟩, Hf.out, hB1.drew⟩
        case measure => simp [intOf]; omega
    · have hin : (n : Int) ≤ (k : Int) := by omega
      have hd : l.drop k = [] := list_done Hl.out (by omega)
      rw [hd] at hfold
      have Hf := Lib.hid (show cur = _ from hfold)
      clear hfold hd
      go_wp2
      go_end0
      rw [← Hf.out]
      exact ⟨rfl, ⟨hL.held, hL.mays, by have := hL.len; omega⟩, hb⟩
set_option maxRecDepth 100000 in
set_option maxHeartbeats 2000000 in
theorem parts_cut (bv : Nat) (push : List Ext → Ext → List Ext) (hf : Does 79 w0.heap.size bv push) (hp1 : ∀ l x, mays l → x.may = true → mays (push l x)) (hp2 : ∀ l x, (push l x).length ≤ l.length + 1)
    (A : Option Addr) (n c : Nat) (l : List Ext) (h : Es w0 A n l) (hm : mays l) (a b : Int) (ha : I64 a) (hbb : I64 b) (acc : List Ext) (m : Nat) (hmn : m + n ≤ 100000)
    (w : World) (hw : Below w0.heap.size w0 w) (hH : Laid w w0.heap.size bv acc m) :
    Calls Try.prog 80 #[.slice A n c, .int .i64 a, .int .i64 b, .func (.func 79) #[] #[.pointer (some ⟨bv, 0, none⟩)]] w fun e w' => e = .returned (.tuple #[]) ∧ Laid w' w0.heap.size bv ((partL l a b).foldl push acc) (m + n) ∧ Below w0.heap.size w0 w' := by
  have Hl := Lib.hid h.len
  unfold I64 at ha hbb
  go_enter Try.func80, Try.ntmps80
  go_wp2_with fail
  go_loopw [14] (fun iv wr => ∃ (k : Nat) (cur : List Ext), k ≤ n ∧ iv = .int .i64 (k : Int) ∧ Laid wr w0.heap.size bv cur (m + k) ∧ (partL (l.drop k) a b).foldl push cur = (partL l a b).foldl push acc ∧ Below w0.heap.size w0 wr) (fun iv _ => n - (intOf iv).toNat)
  case atStart => exact ⟨0, acc, Nat.zero_le _, rfl, hH, rfl, hw⟩
  case round =>
    obtain ⟨k, cur, hk, rfl, hL, hfold, hb⟩ := hrel
    clear hH hw
    by_cases hlt : k < n
    · have hil : (k : Int) < (n : Int) := by omega
      obtain ⟨q, o, rfl, x, hx, fx, c0, c1, c2, c3⟩ := (h.below hb).at_ hlt
      have hxm := hm x (List.mem_of_getElem? hx)
      have hxl := may_len hxm
      rw [drop_of hx, part_cons] at hfold
      have hac := Blk.new wr 77 #[.int .i64 x.off, .int .i64 x.len, .int .i64 x.phys, .int .i64 x.birth] rfl
      have hba : Below wr.heap.size wr (wr.alloc (.cells #[.int .i64 x.off, .int .i64 x.len, .int .i64 x.phys, .int .i64 x.birth] 77)) := (Below.refl _ _).alloc (Nat.le_refl _) _
      have hB1 := below_step hb hba (Nat.le_refl _)
      have hL1 := hL.held.keep hba
      obtain ⟨lo, hlo⟩ : ∃ lo, max x.off a = lo := ⟨_, rfl⟩
      obtain ⟨hi, hhi⟩ : ∃ hi, min (x.off + x.len) b = hi := ⟨_, rfl⟩
      have hwx : IntKind.i64.wrap (x.off + x.len) = x.off + x.len := by rw [IntKind.wrap_i64]; omega
      have hbs := hB1.size
      by_cases hlh : lo < hi
      · have hc := clip_is hlo hhi hlh
        have Hcm := Lib.hid (clip_may hxm hc)
        rw [hc] at hfold
        have Hf := Lib.hid hfold
        have hw1 : IntKind.i64.wrap (hi - lo) = hi - lo := by rw [IntKind.wrap_i64]; omega
        have hw2 : IntKind.i64.wrap (x.phys + lo) = x.phys + lo := by rw [IntKind.wrap_i64]; omega
        have hw3 : IntKind.i64.wrap (x.phys + lo - x.off) = x.phys + lo - x.off := by rw [IntKind.wrap_i64]; omega
        clear hc hfold h hb
        go_wp2_with fail
        go_region
        go_wp2_with fail
        refine (hf _ cur ⟨lo, hi - lo, x.phys + lo - x.off, x.birth⟩ hL1.drew hbs (by have := hL.len; omega) hL.mays Hcm.out).mono ?_
        rintro e w2 ⟨rfl, hH2, hB2⟩
        have hB2' := hB1.trans (below_undrew hB2)
        go_wp2
        go_roundw
        case rel => exact ⟨k + 1, _, by omega, by go_num, ⟨hH2, hp1 _ _ hL.mays Hcm.out, by have := hL.len; have := hp2 cur ⟨lo, hi - lo, x.phys + lo - x.off, x.birth⟩; omega⟩, Hf.out, hB2'⟩
        case measure => simp [intOf]; omega
      · have hc := clip_not hlo hhi hlh
        rw [hc] at hfold
        have Hf := Lib.hid hfold
        clear hc hfold h hb
        go_wp2_with fail
        go_region
        go_wp2
        go_roundw
        case rel => exact ⟨k + 1, cur, by omega, by go_num, ⟨hL1.drew, hL.mays, by have := hL.len; omega⟩, Hf.out, hB1.drew⟩
        case measure => simp [intOf]; omega
    · have hin : (n : Int) ≤ (k : Int) := by omega
      have hd : l.drop k = [] := list_done Hl.out (by omega)
      rw [hd] at hfold
      have Hf := Lib.hid (show cur = _ from hfold)
      clear hfold hd
      go_wp2
      go_end0
      rw [← Hf.out]
      exact ⟨rfl, ⟨hL.held, hL.mays, by have := hL.len; omega⟩, hb⟩
end
end Go.Proofs.Ytfcfffilfmbpeaa

set_option linter.all false
namespace Go.Proofs.Ytfcfffilfmbpeaa
open Go.RowKit

theorem right_short {l : List Ext} (h : rightB l = true) : l.length ≤ 1024 := by
  have := list_short (right_is.1 h).1 (by omega)
  omega
theorem mays_list {l : List Ext} (h : listB l = true) : mays l := fun x hx => (listFrom_mem (lo := 0) h x hx).1
theorem mays_right {l : List Ext} (h : rightB l = true) : mays l := mays_list (right_is.1 h).1
theorem mays_app {l x} (h : mays l) (hx : Ext.may x = true) : mays (appL l x) := mays_snoc h hx
theorem app_length (l : List Ext) (x : Ext) : (appL l x).length ≤ l.length + 1 := by simp [appL]
theorem fold_put (l : List Ext) (x : Ext) : (partL l (x.off + x.len) 1024).foldl pushL (pushL ((partL l 0 x.off).foldl pushL []) x) = putL l x := by
  unfold putL
  rw [← fold_join, List.foldl_append, List.foldl_cons]
theorem fold_cut (l : List Ext) (off n : Int) : (partL l (off + n) 1024).foldl appL ((partL l 0 off).foldl appL []) = cutL l off n := by
  rw [fold_app, fold_app]; rfl
theorem range_is {o n : Int} : rangeB o n = true ↔ 0 ≤ o ∧ 1 ≤ n ∧ n ≤ 1024 - o := by
  simp only [rangeB, Bool.and_eq_true, decide_eq_true_eq]
  omega
/-- A variable for a list, as it is made. -/
theorem held_new (w : World) (B : Nat) (hB : B ≤ w.heap.size) {g : Nat} (hg : g = w.heap.size) : Held (w.alloc (.cells #[.slice none 0 0] 90)) B g [] := by
  subst hg
  exact ⟨hB, .slice none 0 0, 0, Blk.new w _ _ rfl, eo_nil _ _⟩
theorem Laid.wide {w : World} {B bv : Nat} {l : List Ext} {m m' : Nat} (h : Laid w B bv l m) (hm : m ≤ m') : Laid w B bv l m' := ⟨h.held, h.mays, Nat.le_trans h.len hm⟩

section
variable (w : World)
set_option maxRecDepth 100000 in
set_option maxHeartbeats 1000000 in
theorem put_no (A : Option Addr) (n c : Nat) (l : List Ext) (x : Ext) (h : Es w A n l) (hn : n ≤ 9223372036854775807) (fx : Fit x) (hb : ¬ (rightB l = true ∧ x.may = true)) :
    Calls Try.prog 68 #[.slice A n c, .agg #[.int .i64 x.off, .int .i64 x.len, .int .i64 x.phys, .int .i64 x.birth]] w fun e w' => e = .returned (.tuple #[.slice none 0 0, .int .i64 1]) ∧ Below w.heap.size w w' := by
  have hac := Blk.new w 77 #[.int .i64 x.off, .int .i64 x.len, .int .i64 x.phys, .int .i64 x.birth] rfl
  have hba : Below w.heap.size w (w.alloc (.cells #[.int .i64 x.off, .int .i64 x.len, .int .i64 x.phys, .int .i64 x.birth] 77)) := (Below.refl _ _).alloc (Nat.le_refl _) _
  have h1 := h.below hba
  cases hr : rightB l with
  | false =>
    go_enter Try.func68, Try.ntmps68
    go_wp2_with fail
    refine (right_ _ A n c l h1 hn).mono ?_
    rw [hr]
    rintro e w2 ⟨rfl, hb2⟩
    go_wp2
    go_ret2
    exact ⟨rfl, below_step hba hb2 (Nat.le_refl _)⟩
  | true =>
    have hm : x.may = false := by
      rw [Bool.eq_false_iff]; intro e; exact hb ⟨hr, e⟩
    go_enter Try.func68, Try.ntmps68
    go_wp2_with fail
    refine (right_ _ A n c l h1 hn).mono ?_
    rw [hr]
    rintro e w2 ⟨rfl, hb2⟩
    have d0 := (hac.keep hb2).cell (j := 0) (u := .int .i64 x.off) rfl
    have d1 := (hac.keep hb2).cell (j := 1) (u := .int .i64 x.len) rfl
    have d2 := (hac.keep hb2).cell (j := 2) (u := .int .i64 x.phys) rfl
    have d3 := (hac.keep hb2).cell (j := 3) (u := .int .i64 x.birth) rfl
    go_wp2_with fail
    refine (may_ _ x fx).mono ?_
    rw [hm]
    rintro e w3 ⟨rfl, hb3⟩
    go_wp2
    go_ret2
    exact ⟨rfl, below_step (below_step hba hb2 (Nat.le_refl _)) hb3 (Nat.le_refl _)⟩
set_option maxRecDepth 100000 in
set_option maxHeartbeats 2000000 in
theorem put_ok (A : Option Addr) (n c : Nat) (l : List Ext) (x : Ext) (h : Es w A n l) (hr : rightB l = true) (hm : x.may = true) :
    Calls Try.prog 68 #[.slice A n c, .agg #[.int .i64 x.off, .int .i64 x.len, .int .i64 x.phys, .int .i64 x.birth]] w fun e w' => ∃ v m, e = .returned (.tuple #[v, .int .i64 0]) ∧ Eo w' w.heap.size v m (putL l x) ∧ Below w.heap.size w w' := by
  have hlen := h.len
  have hsh := right_short hr
  have fx := fit_of hm
  have hxl := may_len hm
  have hml := mays_right hr
  have Hfold := Lib.hid (fold_put l x)
  have hac := Blk.new w 77 #[.int .i64 x.off, .int .i64 x.len, .int .i64 x.phys, .int .i64 x.birth] rfl
  have hba : Below w.heap.size w (w.alloc (.cells #[.int .i64 x.off, .int .i64 x.len, .int .i64 x.phys, .int .i64 x.birth] 77)) := (Below.refl _ _).alloc (Nat.le_refl _) _
  have hs1 : (w.alloc (.cells #[.int .i64 x.off, .int .i64 x.len, .int .i64 x.phys, .int .i64 x.birth] 77)).heap.size = w.heap.size + 1 := by simp
  have h1 := h.below hba
  have hn : n ≤ 1024 := by omega
  have Hwl := Lib.hid (show IntKind.i64.wrap (x.off + x.len) = x.off + x.len by rw [IntKind.wrap_i64]; omega)
  clear hlen hsh h
  go_enter Try.func68, Try.ntmps68
  go_wp2_with fail
  refine (right_ _ A n c l h1 (by omega)).mono ?_
  rw [hr]
  rintro e w2 ⟨rfl, hb2⟩
  generalize (w.alloc (.cells #[.int .i64 x.off, .int .i64 x.len, .int .i64 x.phys, .int .i64 x.birth] 77)) = w1 at *
  have hac2 := hac.keep hb2
  have d0 := hac2.cell (j := 0) (u := .int .i64 x.off) rfl
  have d1 := hac2.cell (j := 1) (u := .int .i64 x.len) rfl
  have d2 := hac2.cell (j := 2) (u := .int .i64 x.phys) rfl
  have d3 := hac2.cell (j := 3) (u := .int .i64 x.birth) rfl
  go_wp2_with fail
  refine (may_ _ x fx).mono ?_
  rw [hm]
  rintro e w3 ⟨rfl, hb3⟩
  clear d0 d1 d2 d3
  have hb13 := below_step hb2 hb3 (Nat.le_refl _)
  have hH4 := held_new w3 w1.heap.size hb13.size rfl
  have hb14 : Below w1.heap.size w1 (w3.alloc (.cells #[.slice none 0 0] 90)) := hb13.alloc hb13.size _
  have hac4 := hac.keep hb14
  have d0 := hac4.cell (j := 0) (u := .int .i64 x.off) rfl
  go_wp2_with fail
  refine (parts_put w1 w3.heap.size pushL (fun W l x q1 q2 q3 q4 q5 => keep_ W _ _ l x q1 q2 q3 q4 q5) (fun l x => mays_push) push_length A n c l h1 hml 0 x.off (by unfold I64; omega) fx.off [] 0 (by omega) _ hb14 ⟨hH4, mays_nil, Nat.le_refl _⟩).mono ?_
  rintro e w5 ⟨rfl, hH5, hb15⟩
  clear d0 hH4 hb14 hac4
  have hac5 := hac.keep hb15
  have d0 := hac5.cell (j := 0) (u := .int .i64 x.off) rfl
  have d1 := hac5.cell (j := 1) (u := .int .i64 x.len) rfl
  have d2 := hac5.cell (j := 2) (u := .int .i64 x.phys) rfl
  have d3 := hac5.cell (j := 3) (u := .int .i64 x.birth) rfl
  go_wp2_with fail
  refine (keep_ _ w1.heap.size w3.heap.size _ x hH5.held hb15.size (by have := hH5.len; omega) hH5.mays hm).mono ?_
  rintro e w6 ⟨rfl, hH6, hb56⟩
  clear d0 d1 d2 d3
  have hb16 := hb15.trans hb56
  have hac6 := hac.keep hb16
  have d0 := hac6.cell (j := 0) (u := .int .i64 x.off) rfl
  have d1 := hac6.cell (j := 1) (u := .int .i64 x.len) rfl
  have hw := Hwl.out
  go_wp2_with fail
  refine (parts_put w1 w3.heap.size pushL (fun W l x q1 q2 q3 q4 q5 => keep_ W _ _ l x q1 q2 q3 q4 q5) (fun l x => mays_push) push_length A n c l h1 hml (x.off + x.len) 1024 (by unfold I64; omega) (by unfold I64; omega) _ (0 + n + 1) (by omega) _ hb16 ⟨hH6, mays_push hH5.mays hm, Nat.le_trans (push_length _ _) (Nat.succ_le_succ hH5.len)⟩).mono ?_
  rw [Hfold.out]
  rintro e w7 ⟨rfl, hH7, hb17⟩
  clear d0 d1
  obtain ⟨v, m, hv, ho⟩ := hH7.held.row
  have c0 := hv.cell (j := 0) (u := v) rfl
  go_wp2
  go_ret2
  exact ⟨v, m, rfl, ho.mono (by omega), hba.trans (hb17.mono hba.size)⟩
set_option maxRecDepth 100000 in
set_option maxHeartbeats 1000000 in
theorem cut_no (A : Option Addr) (n c : Nat) (l : List Ext) (o k : Int) (h : Es w A n l) (hn : n ≤ 9223372036854775807) (fo : I64 o) (fk : I64 k) (hb : ¬ (rightB l = true ∧ rangeB o k = true)) :
    Calls Try.prog 66 #[.slice A n c, .int .i64 o, .int .i64 k] w fun e w' => e = .returned (.tuple #[.slice none 0 0, .int .i64 1]) ∧ Below w.heap.size w w' := by
  cases hr : rightB l with
  | false =>
    go_enter Try.func66, Try.ntmps66
    go_wp2_with fail
    refine (right_ _ A n c l h hn).mono ?_
    rw [hr]
    rintro e w2 ⟨rfl, hb2⟩
    go_wp2
    go_ret2
    exact ⟨rfl, hb2⟩
  | true =>
    have hm : rangeB o k = false := by
      rw [Bool.eq_false_iff]; intro e; exact hb ⟨hr, e⟩
    go_enter Try.func66, Try.ntmps66
    go_wp2_with fail
    refine (right_ _ A n c l h hn).mono ?_
    rw [hr]
    rintro e w2 ⟨rfl, hb2⟩
    go_wp2_with fail
    refine (blocks_ _ o k fo fk).mono ?_
    rw [hm]
    rintro e w3 ⟨rfl, rfl⟩
    go_wp2
    go_ret2
    exact ⟨rfl, hb2⟩
set_option maxRecDepth 100000 in
set_option maxHeartbeats 2000000 in
theorem cut_ok (A : Option Addr) (n c : Nat) (l : List Ext) (o k : Int) (h : Es w A n l) (hr : rightB l = true) (hm : rangeB o k = true) :
    Calls Try.prog 66 #[.slice A n c, .int .i64 o, .int .i64 k] w fun e w' => ∃ v m, e = .returned (.tuple #[v, .int .i64 0]) ∧ Eo w' w.heap.size v m (cutL l o k) ∧ Below w.heap.size w w' := by
  have hlen := h.len
  have hsh := right_short hr
  have hok := range_is.1 hm
  have hml := mays_right hr
  have Hfold := Lib.hid (fold_cut l o k)
  have hn : n ≤ 1024 := by omega
  have fo : I64 o := by unfold I64; omega
  have fk : I64 k := by unfold I64; omega
  have Hwl := Lib.hid (show IntKind.i64.wrap (o + k) = o + k by rw [IntKind.wrap_i64]; omega)
  clear hlen hsh
  go_enter Try.func66, Try.ntmps66
  go_wp2_with fail
  refine (right_ _ A n c l h (by omega)).mono ?_
  rw [hr]
  rintro e w2 ⟨rfl, hb2⟩
  go_wp2_with fail
  refine (blocks_ _ o k fo fk).mono ?_
  rw [hm]
  rintro e w3 ⟨rfl, rfl⟩
  have hH4 := held_new w2 w.heap.size hb2.size rfl
  have hb4 : Below w.heap.size w (w2.alloc (.cells #[.slice none 0 0] 90)) := hb2.alloc hb2.size _
  go_wp2_with fail
  refine (parts_cut w w2.heap.size appL (fun W l x q1 q2 q3 q4 q5 => cutf_ W _ _ l x q1 q2 q3 q4 q5) (fun l x => mays_app) app_length A n c l h hml 0 o (by unfold I64; omega) fo [] 0 (by omega) _ hb4 ⟨hH4, mays_nil, Nat.le_refl _⟩).mono ?_
  rintro e w5 ⟨rfl, hH5, hb5⟩
  have hw := Hwl.out
  go_wp2_with fail
  refine (parts_cut w w2.heap.size appL (fun W l x q1 q2 q3 q4 q5 => cutf_ W _ _ l x q1 q2 q3 q4 q5) (fun l x => mays_app) app_length A n c l h hml (o + k) 1024 (by unfold I64; omega) (by unfold I64; omega) _ (0 + n) (by omega) _ hb5 hH5).mono ?_
  rw [Hfold.out]
  rintro e w7 ⟨rfl, hH7, hb7⟩
  obtain ⟨v, m, hv, ho⟩ := hH7.held.row
  have c0 := hv.cell (j := 0) (u := v) rfl
  go_wp2
  go_ret2
  exact ⟨v, m, rfl, ho, hb7⟩
end
end Go.Proofs.Ytfcfffilfmbpeaa
