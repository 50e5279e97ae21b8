/- Layer 6: lists of extents that a call makes itself: what join lays behind, and what the closures do. -/
import Derived.Test.YtiehhmchokbafaaEmpB
import Derived.Test.YtiehhmchokbafaaStep
set_option linter.all false
namespace Go.Proofs.Ytiehhmchokbafaa
open Go.RowKit

/-! ### one extent laid behind a list -/
def pushL (l : List Ext) (x : Ext) : List Ext := match l.getLast? with
  | some y => if oneB y x then l.dropLast ++ [{ y with len := y.len + x.len }] else l ++ [x]
  | none => [x]
theorem push_nil (x : Ext) : pushL [] x = [x] := rfl
theorem push_snoc (p : List Ext) (y x : Ext) : pushL (p ++ [y]) x = if oneB y x then p ++ [{ y with len := y.len + x.len }] else p ++ [y] ++ [x] := by
  unfold pushL
  simp
theorem fold_push : ∀ (l p : List Ext) (y : Ext), l.foldl pushL (p ++ [y]) = p ++ joinIn y l
  | [], p, y => rfl
  | x :: l, p, y => by
    rw [List.foldl_cons, push_snoc]
    unfold joinIn
    by_cases h : oneB y x = true
    · rw [if_pos h, if_pos h, fold_push l]
    · rw [if_neg h, if_neg h, fold_push l]
      simp
theorem fold_join (l : List Ext) : l.foldl pushL [] = joinL l := by
  cases l with
  | nil => rfl
  | cons x l => exact fold_push l [] x
/-- All may be. -/
def mays (l : List Ext) : Prop := ∀ x ∈ l, x.may = true
theorem mays_nil : mays [] := by simp [mays]
theorem mays_snoc {l : List Ext} {x : Ext} (h : mays l) (hx : x.may = true) : mays (l ++ [x]) := by
  intro y hy
  rcases List.mem_append.1 hy with hy | hy
  · exact h y hy
  · rw [List.mem_singleton.1 hy]; exact hx
theorem snoc_cases {α : Type} (l : List α) : l = [] ∨ ∃ p y, l = p ++ [y] := by
  rcases List.eq_nil_or_concat l with h | ⟨p, y, h⟩
  · exact .inl h
  · exact .inr ⟨p, y, by simpa using h⟩
theorem mays_push {l : List Ext} {x : Ext} (h : mays l) (hx : x.may = true) : mays (pushL l x) := by
  rcases snoc_cases l with rfl | ⟨p, y, rfl⟩
  · rw [push_nil]; exact mays_snoc mays_nil hx
  · rw [push_snoc]
    split
    · rename_i ho
      have hy := may_len (h y (by simp))
      have hx := may_len hx
      obtain ⟨o1, o2, o3⟩ := one_is ho
      refine mays_snoc (fun z hz => h z (by simp [hz])) (may_of (by simp only; omega))
    · exact mays_snoc h hx
theorem push_length (l : List Ext) (x : Ext) : (pushL l x).length ≤ l.length + 1 := by
  rcases snoc_cases l with rfl | ⟨p, y, rfl⟩
  · rw [push_nil]; simp
  · rw [push_snoc]
    split <;> simp
def appL (l : List Ext) (x : Ext) : List Ext := l ++ [x]
theorem fold_app : ∀ (l p : List Ext), l.foldl appL p = p ++ l
  | [], p => by simp
  | x :: l, p => by rw [List.foldl_cons, fold_app l]; simp [appL]
theorem mays_fit {l : List Ext} (h : mays l) : ∀ x ∈ l, Fit x := fun x hx => fit_of (h x hx)

/-! ### lists that the call made -/
/-- v is a row of the call's own, in new memory from base on, and reads as l. -/
abbrev Eo (w : World) (base : Nat) (v : Value) (n : Nat) (l : List Ext) : Prop := w.ownsRow base 24 4 v n (evs l)
theorem eo_len {w : World} {base : Nat} {v : Value} {n : Nat} {l : List Ext} (h : Eo w base v n l) : n = l.length := by have := h.1; rw [evs_len] at this; omega
theorem eo_es {w : World} {base : Nat} {A : Option Addr} {n c : Nat} {l : List Ext} (h : Eo w base (.slice A n c) n l) (hf : ∀ x ∈ l, Fit x) : Es w A n l := ⟨rd_own h, hf⟩
theorem eo_nil (w : World) (base : Nat) : Eo w base (.slice none 0 0) 0 [] := own_nil w base _ 4
theorem eo_of {w : World} {base : Nat} {v : Value} {n : Nat} {xs : List Value} {l : List Ext} (h : w.ownsRow base 24 4 v n xs) (e : xs = evs l) : Eo w base v n l := by subst e; exact h
theorem grown_drewR {a b : World} {row : Option Nat} (h : a.grownBy b row) : a.grownBy b.drew row := ⟨h.os, h.tape, h.output, h.size, h.block⟩
theorem evs_one (l : List Ext) : ∀ u ∈ evs l, u.oneCell' = true := by
  intro u hu
  obtain ⟨x, _, hx⟩ := List.mem_flatMap.1 hu
  simp only [ev, List.mem_cons, List.not_mem_nil, or_false] at hx
  rcases hx with rfl | rfl | rfl | rfl <;> rfl
theorem evs_snoc (l : List Ext) (x : Ext) : evs (l ++ [x]) = evs l ++ ev x := by rw [evs_app]; simp [evs]
theorem rd_one {w : World} {x : Ext} {g : Nat} {t : TypeId} (hg : g = w.heap.size) : Rd (w.alloc (.cells #[.int .i64 x.off, .int .i64 x.len, .int .i64 x.phys, .int .i64 x.birth] t)) (some ⟨g, 0, none⟩) 4 1 (ev x) := by
  subst hg
  exact Rd.new w #[.int .i64 x.off, .int .i64 x.len, .int .i64 x.phys, .int .i64 x.birth] t (0, 0) rfl
/-- The last extent's length, written over. -/
theorem eo_set {w : World} {base : Nat} {v : Value} {n : Nat} {p : List Ext} {y : Ext} (h : Eo w base v n (p ++ [y])) : ∃ g cap cur, v = .slice (some ⟨g, 0, none⟩) n cap ∧ n ≤ cap ∧ cap ≤ maxLen ∧ base ≤ g ∧ n = p.length + 1 ∧ Blk w g 24 cur ∧
    w.cell? ⟨g, p.length * 4, none⟩ = some (.int .i64 y.off) ∧ w.cell? ⟨g, p.length * 4 + 1, none⟩ = some (.int .i64 y.len) ∧ w.cell? ⟨g, p.length * 4 + 2, none⟩ = some (.int .i64 y.phys) ∧ w.cell? ⟨g, p.length * 4 + 3, none⟩ = some (.int .i64 y.birth) ∧
    w.frozen? ⟨g, p.length * 4 + 1, none⟩ = false ∧
    ∀ z : Int, Eo (w.setCell ⟨g, p.length * 4 + 1, none⟩ (.int .i64 z)) base v n (p ++ [{ y with len := z }]) := by
  have hl := eo_len h
  rw [List.length_append, List.length_singleton] at hl
  rcases h.2 with ⟨_, h0⟩ | ⟨g, cap, cur, rfl, hg, hh, hnc, hcm, hcs, hx⟩
  · omega
  have hb : Blk w g 24 cur := hh
  have hc : ∀ j (u : Value), (ev y)[j]? = some u → w.cell? ⟨g, p.length * 4 + j, none⟩ = some u := fun j u hu => by
    refine hb.cell ?_
    have h1 : (evs (p ++ [y]))[p.length * 4 + j]? = some u := by
      rw [evs_snoc, List.getElem?_append_right (by rw [evs_len]; omega), evs_len, Nat.add_sub_cancel_left]
      exact hu
    rw [← hx, List.getElem?_take] at h1
    split at h1
    · simpa using h1
    · cases h1
  refine ⟨g, cap, cur, rfl, hnc, hcm, hg, hl, hb, hc 0 _ rfl, hc 1 _ rfl, hc 2 _ rfl, hc 3 _ rfl, hb.free _, fun z => ⟨?_, .inr ⟨g, cap, cur.setIfInBounds (p.length * 4 + 1) (.int .i64 z), rfl, hg, hb.setCell _ _, hnc, hcm, by simp [hcs], ?_⟩⟩⟩
  · rw [evs_len]; simp [hl]
  · rw [Array.toList_setIfInBounds, List.take_set, hx, evs_snoc, evs_snoc, List.set_append_right _ _ (by rw [evs_len]; omega), evs_len, Nat.add_sub_cancel_left]
    rfl
theorem info_ext : (Try.prog.info? 24).map (fun i => (i.zero, i.size, i.bytes)) = some (some (.agg #[.int .i64 0, .int .i64 0, .int .i64 0, .int .i64 0]), 4, 32) := by kernel_rfl
theorem ext_info : ∃ i, Try.prog.info? 24 = some i ∧ i.zero = some (.agg #[.int .i64 0, .int .i64 0, .int .i64 0, .int .i64 0]) ∧ i.size = 4 ∧ i.bytes = 32 := by
  obtain ⟨i, hi, he⟩ := Option.map_eq_some_iff.1 info_ext
  simp only [Prod.mk.injEq] at he
  exact ⟨i, hi, he.1, he.2.1, he.2.2⟩

section
variable (w : World)
set_option maxRecDepth 100000 in
set_option maxHeartbeats 2000000 in
theorem join_ (base : Nat) (v : Value) (n : Nat) (l : List Ext) (x : Ext) (h : Eo w base v n l) (hb : base ≤ w.heap.size) (hn : n ≤ 100000) (hm : mays l) (hx : x.may = true) :
    Calls Try.prog 62 #[v, .agg #[.int .i64 x.off, .int .i64 x.len, .int .i64 x.phys, .int .i64 x.birth]] w fun e w' => ∃ v' n', e = .returned v' ∧ Eo w' base v' n' (pushL l x) ∧ After w v w' v' := by
  obtain ⟨i0, hi0, hz0, hz1, hz2⟩ := ext_info
  have Hz := Lib.hid hz2
  clear hz2
  have hxl := may_len hx
  have fx := fit_of hx
  obtain ⟨fo, fl, fp, fb⟩ := fx.all
  have hac := Blk.new w 24 #[.int .i64 x.off, .int .i64 x.len, .int .i64 x.phys, .int .i64 x.birth] rfl
  have hba : Below w.heap.size w (w.alloc (.cells #[.int .i64 x.off, .int .i64 x.len, .int .i64 x.phys, .int .i64 x.birth] 24)) := (Below.refl _ _).alloc (Nat.le_refl _) _
  have hown := own_keep h hba
  rcases snoc_cases l with rfl | ⟨p, y, rfl⟩
  · have hn0 : n = 0 := eo_len h
    subst hn0
    obtain ⟨A, c, rfl, hc, hcm, hA⟩ := own_form h
    go_enter Try.func62, Try.ntmps62
    go_wp2_with fail
    clear h
    have hs1 : (w.alloc (.cells #[.int .i64 x.off, .int .i64 x.len, .int .i64 x.phys, .int .i64 x.birth] 24)).heap.size = w.heap.size + 1 := by simp
    generalize (w.alloc (.cells #[.int .i64 x.off, .int .i64 x.len, .int .i64 x.phys, .int .i64 x.birth] 24)) = w1 at *
    go_quiet (fail)
    have d0 : (w1.drewN nq).cell? ⟨w.heap.size, 0, none⟩ = some (.int .i64 x.off) := hac.cell rfl
    have d1 : (w1.drewN nq).cell? ⟨w.heap.size, 1, none⟩ = some (.int .i64 x.len) := hac.cell rfl
    have d2 : (w1.drewN nq).cell? ⟨w.heap.size, 2, none⟩ = some (.int .i64 x.phys) := hac.cell rfl
    have d3 : (w1.drewN nq).cell? ⟨w.heap.size, 3, none⟩ = some (.int .i64 x.birth) := hac.cell rfl
    have hownD : Eo (w1.drewN nq) base (.slice A 0 c) 0 [] := hown
    have hbD : Below w.heap.size w (w1.drewN nq) := below_drewN hba nq
    have hsD : (w1.drewN nq).heap.size = w.heap.size + 1 := hs1
    generalize w1.drewN nq = w2 at *
    go_wp2_with (first
      | (at_builtin
         go_must (refine wpList_app _ rfl (.tmp 30) (.tmp 32) _ rfl base 24 i0 _ 4 32 Try.underlying42 hi0 hz0 hz1 Hz.out rfl (by decide) _ 0 _ rfl (own_keep hownD ((Below.refl _ _).alloc (Nat.le_refl _) _)) _ 1 1 (ev x) rfl (fun h => by cases h) (rd_one hsD.symm) (by intro u hu; exact evs_one [x] u (by simpa [evs] using hu)) (by unfold maxLen; omega) (by omega) (by simp; omega) ?_)
         intro v3 w3 hown3 hg3 hat3))
    go_ret
    have e : evs (pushL [] x) = evs [] ++ ev x := by simp [push_nil, evs]
    refine ⟨v3, 0 + 1, rfl, eo_of hown3 e.symm, grown_step (below_grown (hbD.alloc hbD.size _) _) hg3 (fun j hj => .inr hj), hat3.imp id fun e => ⟨_, e, by simp; omega⟩⟩
  · obtain ⟨g, cap, cur, rfl, hnc, hcm, hbg, hnm, hblk, c0, c1, c2, c3, c4, hset⟩ := eo_set hown
    have hnear := near_of (hm y (by simp)) fx
    have hys := may_len (hm y (by simp))
    have Hp := Lib.hid (push_snoc p y x)
    generalize hmp : p.length = m at *
    have Hmp := Lib.hid hmp
    have hw1 : IntKind.i64.wrap ((n : Int) - 1) = (m : Int) := by rw [IntKind.wrap_i64]; omega
    have hm0 : (0 : Int) ≤ (m : Int) := by omega
    have hmn : (m : Int) < (n : Int) := by omega
    have hw2 : IntKind.i64.wrap (y.len + x.len) = y.len + x.len := by rw [IntKind.wrap_i64]; omega
    have Hnm := Lib.hid hnm
    clear hnm hmp
    cases ho : oneB y x with
    | true =>
      go_enter Try.func62, Try.ntmps62
      go_wp2_with fail
      clear h
      have hs1 : (w.alloc (.cells #[.int .i64 x.off, .int .i64 x.len, .int .i64 x.phys, .int .i64 x.birth] 24)).heap.size = w.heap.size + 1 := by simp
      generalize (w.alloc (.cells #[.int .i64 x.off, .int .i64 x.len, .int .i64 x.phys, .int .i64 x.birth] 24)) = w1 at *
      have d0 := hac.cell (j := 0) (u := .int .i64 x.off) rfl
      have d1 := hac.cell (j := 1) (u := .int .i64 x.len) rfl
      have d2 := hac.cell (j := 2) (u := .int .i64 x.phys) rfl
      have d3 := hac.cell (j := 3) (u := .int .i64 x.birth) rfl
      go_region_held3 (fun w' => w'.cell? ⟨g, m * 4, none⟩ = some (.int .i64 y.off) ∧ w'.cell? ⟨g, m * 4 + 1, none⟩ = some (.int .i64 y.len) ∧ w'.cell? ⟨g, m * 4 + 2, none⟩ = some (.int .i64 y.phys) ∧ w'.cell? ⟨g, m * 4 + 3, none⟩ = some (.int .i64 y.birth) ∧
          w'.cell? ⟨w.heap.size, 0, none⟩ = some (.int .i64 x.off) ∧ w'.cell? ⟨w.heap.size, 1, none⟩ = some (.int .i64 x.len) ∧ w'.cell? ⟨w.heap.size, 2, none⟩ = some (.int .i64 x.phys) ∧ w'.cell? ⟨w.heap.size, 3, none⟩ = some (.int .i64 x.birth))
        (first | go_keep | exact ⟨c0, c1, c2, c3, d0, d1, d2, d3⟩ | exact ⟨(hb2.cell (cell_lt c0)).trans c0, (hb2.cell (cell_lt c1)).trans c1, (hb2.cell (cell_lt c2)).trans c2, (hb2.cell (cell_lt c3)).trans c3, (hb2.cell (cell_lt d0)).trans d0, (hb2.cell (cell_lt d1)).trans d1, (hb2.cell (cell_lt d2)).trans d2, (hb2.cell (cell_lt d3)).trans d3⟩)
        (first
          | (go_at_call 66; refine (one_ _ y x hnear).mono ?_; rw [ho]; rintro e w2 ⟨rfl, hb2⟩))
      have hown2 : Eo w2 base (.slice (some ⟨g, 0, none⟩) n cap) n (p ++ [y]) := own_keep (w := w1.drew) hown hb2
      obtain ⟨g', cap', cur', e', -, -, -, -, hblk2, k0, k1, k2, k3, k4, hset2⟩ := eo_set hown2
      rw [Hmp.out] at k0 k1 k2 k3 k4 hset2
      injection e' with e' _ e3
      injection e' with e'
      injection e' with e1
      subst e1 e3
      have m1 := (hb2.cell (cell_lt d1)).trans d1
      clear c0 c1 c2 c3 c4 d0 d1 d2 d3 hset
      go_wp2
      go_region
      go_wp2
      go_ret
      have hB2 : Below w.heap.size w w2 := below_step hba (below_undrew hb2) (Nat.le_refl _)
      refine ⟨.slice (some ⟨g, 0, none⟩) n cap, n, rfl, ?_, grown_step (below_grown hB2 _) (grown_drewR (grown_setCell w2 ⟨g, m * 4 + 1, none⟩ (.int .i64 (y.len + x.len)))) (fun j hj => .inr hj), .inl rfl⟩
      rw [Hp.out, ho]
      exact hset2 _
    | false =>
      go_enter Try.func62, Try.ntmps62
      go_wp2_with fail
      clear h hset
      have hs1 : (w.alloc (.cells #[.int .i64 x.off, .int .i64 x.len, .int .i64 x.phys, .int .i64 x.birth] 24)).heap.size = w.heap.size + 1 := by simp
      generalize (w.alloc (.cells #[.int .i64 x.off, .int .i64 x.len, .int .i64 x.phys, .int .i64 x.birth] 24)) = w1 at *
      have d0 := hac.cell (j := 0) (u := .int .i64 x.off) rfl
      have d1 := hac.cell (j := 1) (u := .int .i64 x.len) rfl
      have d2 := hac.cell (j := 2) (u := .int .i64 x.phys) rfl
      have d3 := hac.cell (j := 3) (u := .int .i64 x.birth) rfl
      go_region_held3 (fun w' => w'.cell? ⟨g, m * 4, none⟩ = some (.int .i64 y.off) ∧ w'.cell? ⟨g, m * 4 + 1, none⟩ = some (.int .i64 y.len) ∧ w'.cell? ⟨g, m * 4 + 2, none⟩ = some (.int .i64 y.phys) ∧ w'.cell? ⟨g, m * 4 + 3, none⟩ = some (.int .i64 y.birth) ∧
          w'.cell? ⟨w.heap.size, 0, none⟩ = some (.int .i64 x.off) ∧ w'.cell? ⟨w.heap.size, 1, none⟩ = some (.int .i64 x.len) ∧ w'.cell? ⟨w.heap.size, 2, none⟩ = some (.int .i64 x.phys) ∧ w'.cell? ⟨w.heap.size, 3, none⟩ = some (.int .i64 x.birth))
        (first | go_keep | exact ⟨c0, c1, c2, c3, d0, d1, d2, d3⟩ | exact ⟨(hb2.cell (cell_lt c0)).trans c0, (hb2.cell (cell_lt c1)).trans c1, (hb2.cell (cell_lt c2)).trans c2, (hb2.cell (cell_lt c3)).trans c3, (hb2.cell (cell_lt d0)).trans d0, (hb2.cell (cell_lt d1)).trans d1, (hb2.cell (cell_lt d2)).trans d2, (hb2.cell (cell_lt d3)).trans d3⟩)
        (first
          | (go_at_call 66; refine (one_ _ y x hnear).mono ?_; rw [ho]; rintro e w2 ⟨rfl, hb2⟩))
      have hown2 : Eo w2 base (.slice (some ⟨g, 0, none⟩) n cap) n (p ++ [y]) := own_keep (w := w1.drew) hown hb2
      have m0 := (hb2.cell (cell_lt d0)).trans d0
      have m1 := (hb2.cell (cell_lt d1)).trans d1
      have m2 := (hb2.cell (cell_lt d2)).trans d2
      have m3 := (hb2.cell (cell_lt d3)).trans d3
      have hB2 : Below w.heap.size w w2 := below_step hba (below_undrew hb2) (Nat.le_refl _)
      have hs2 := hB2.size
      clear c0 c1 c2 c3 c4 d0 d1 d2 d3
      go_wp2_with (first
        | (at_builtin
           go_must (refine wpList_app _ rfl (.tmp 30) (.tmp 32) _ rfl base 24 i0 _ 4 32 Try.underlying42 hi0 hz0 hz1 Hz.out rfl (by decide) _ n _ rfl (own_keep hown2 ((Below.refl _ _).alloc (Nat.le_refl _) _)) _ 1 1 (ev x) rfl (fun h => by cases h) (rd_one rfl) (by intro u hu; exact evs_one [x] u (by simpa [evs] using hu)) (by unfold maxLen; omega) (by omega) (by simp; omega) ?_)
           intro v3 w3 hown3 hg3 hat3))
      go_ret
      refine ⟨v3, n + 1, rfl, eo_of hown3 ?_, grown_step (below_grown (hB2.alloc hB2.size _) _) hg3 (fun j hj => .inr hj), hat3.imp id fun e => ⟨_, e, by simp; omega⟩⟩
      rw [Hp.out, ho]
      exact (evs_snoc _ _).symm
end
end Go.Proofs.Ytiehhmchokbafaa
