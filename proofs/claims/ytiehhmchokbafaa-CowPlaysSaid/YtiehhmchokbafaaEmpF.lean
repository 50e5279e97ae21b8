/- Layer 6: emap's Put, Cut and Part. -/
import Derived.Test.YtiehhmchokbafaaEmpE
set_option linter.all false
namespace Go.Proofs.Ytiehhmchokbafaa
open Go.RowKit

theorem right_short {l : List Ext} (h : rightB l = true) : l.length ≤ 1024 := by
  have := list_short (right_is.1 h).1 (by omega)
  omega
theorem mays_list {l : List Ext} (h : listB l = true) : mays l := fun x hx => (listFrom_mem (lo := 0) h x hx).1
theorem mays_right {l : List Ext} (h : rightB l = true) : mays l := mays_list (right_is.1 h).1
theorem mays_app {l x} (h : mays l) (hx : Ext.may x = true) : mays (appL l x) := mays_snoc h hx
theorem app_length (l : List Ext) (x : Ext) : (appL l x).length ≤ l.length + 1 := by simp [appL]
theorem fold_put (l : List Ext) (x : Ext) : (partL l (x.off + x.len) 1024).foldl pushL (pushL ((partL l 0 x.off).foldl pushL []) x) = putL l x := by
  unfold putL
  rw [← fold_join, List.foldl_append, List.foldl_cons]
theorem fold_cut (l : List Ext) (off n : Int) : (partL l (off + n) 1024).foldl appL ((partL l 0 off).foldl appL []) = cutL l off n := by
  rw [fold_app, fold_app]; rfl
theorem range_is {o n : Int} : rangeB o n = true ↔ 0 ≤ o ∧ 1 ≤ n ∧ n ≤ 1024 - o := by
  simp only [rangeB, Bool.and_eq_true, decide_eq_true_eq]
  omega
/-- A variable for a list, as it is made. -/
theorem held_new (w : World) (B : Nat) (hB : B ≤ w.heap.size) {g : Nat} (hg : g = w.heap.size) : Held (w.alloc (.cells #[.slice none 0 0] 42)) B g [] := by
  subst hg
  exact ⟨hB, .slice none 0 0, 0, Blk.new w _ _ rfl, eo_nil _ _⟩
theorem Laid.wide {w : World} {B bv : Nat} {l : List Ext} {m m' : Nat} (h : Laid w B bv l m) (hm : m ≤ m') : Laid w B bv l m' := ⟨h.held, h.mays, Nat.le_trans h.len hm⟩

section
variable (w : World)
set_option maxRecDepth 100000 in
set_option maxHeartbeats 1000000 in
theorem put_no (A : Option Addr) (n c : Nat) (l : List Ext) (x : Ext) (h : Es w A n l) (hn : n ≤ 9223372036854775807) (fx : Fit x) (hb : ¬ (rightB l = true ∧ x.may = true)) :
    Calls Try.prog 47 #[.slice A n c, .agg #[.int .i64 x.off, .int .i64 x.len, .int .i64 x.phys, .int .i64 x.birth]] w fun e w' => e = .returned (.tuple #[.slice none 0 0, .int .i64 1]) ∧ Below w.heap.size w w' := by
  have hac := Blk.new w 24 #[.int .i64 x.off, .int .i64 x.len, .int .i64 x.phys, .int .i64 x.birth] rfl
  have hba : Below w.heap.size w (w.alloc (.cells #[.int .i64 x.off, .int .i64 x.len, .int .i64 x.phys, .int .i64 x.birth] 24)) := (Below.refl _ _).alloc (Nat.le_refl _) _
  have h1 := h.below hba
  cases hr : rightB l with
  | false =>
    go_enter Try.func47, Try.ntmps47
    go_wp2_with fail
    refine (right_ _ A n c l h1 hn).mono ?_
    rw [hr]
    rintro e w2 ⟨rfl, hb2⟩
    go_wp2
    go_ret2
    exact ⟨rfl, below_step hba hb2 (Nat.le_refl _)⟩
  | true =>
    have hm : x.may = false := by
      rw [Bool.eq_false_iff]; intro e; exact hb ⟨hr, e⟩
    go_enter Try.func47, Try.ntmps47
    go_wp2_with fail
    refine (right_ _ A n c l h1 hn).mono ?_
    rw [hr]
    rintro e w2 ⟨rfl, hb2⟩
    have d0 := (hac.keep hb2).cell (j := 0) (u := .int .i64 x.off) rfl
    have d1 := (hac.keep hb2).cell (j := 1) (u := .int .i64 x.len) rfl
    have d2 := (hac.keep hb2).cell (j := 2) (u := .int .i64 x.phys) rfl
    have d3 := (hac.keep hb2).cell (j := 3) (u := .int .i64 x.birth) rfl
    go_wp2_with fail
    refine (may_ _ x fx).mono ?_
    rw [hm]
    rintro e w3 ⟨rfl, hb3⟩
    go_wp2
    go_ret2
    exact ⟨rfl, below_step (below_step hba hb2 (Nat.le_refl _)) hb3 (Nat.le_refl _)⟩
set_option maxRecDepth 100000 in
set_option maxHeartbeats 2000000 in
theorem put_ok (A : Option Addr) (n c : Nat) (l : List Ext) (x : Ext) (h : Es w A n l) (hr : rightB l = true) (hm : x.may = true) :
    Calls Try.prog 47 #[.slice A n c, .agg #[.int .i64 x.off, .int .i64 x.len, .int .i64 x.phys, .int .i64 x.birth]] w fun e w' => ∃ v m, e = .returned (.tuple #[v, .int .i64 0]) ∧ Eo w' w.heap.size v m (putL l x) ∧ Below w.heap.size w w' := by
  have hlen := h.len
  have hsh := right_short hr
  have fx := fit_of hm
  have hxl := may_len hm
  have hml := mays_right hr
  have Hfold := Lib.hid (fold_put l x)
  have hac := Blk.new w 24 #[.int .i64 x.off, .int .i64 x.len, .int .i64 x.phys, .int .i64 x.birth] rfl
  have hba : Below w.heap.size w (w.alloc (.cells #[.int .i64 x.off, .int .i64 x.len, .int .i64 x.phys, .int .i64 x.birth] 24)) := (Below.refl _ _).alloc (Nat.le_refl _) _
  have hs1 : (w.alloc (.cells #[.int .i64 x.off, .int .i64 x.len, .int .i64 x.phys, .int .i64 x.birth] 24)).heap.size = w.heap.size + 1 := by simp
  have h1 := h.below hba
  have hn : n ≤ 1024 := by omega
  have Hwl := Lib.hid (show IntKind.i64.wrap (x.off + x.len) = x.off + x.len by rw [IntKind.wrap_i64]; omega)
  clear hlen hsh h
  go_enter Try.func47, Try.ntmps47
  go_wp2_with fail
  refine (right_ _ A n c l h1 (by omega)).mono ?_
  rw [hr]
  rintro e w2 ⟨rfl, hb2⟩
  generalize (w.alloc (.cells #[.int .i64 x.off, .int .i64 x.len, .int .i64 x.phys, .int .i64 x.birth] 24)) = w1 at *
  have hac2 := hac.keep hb2
  have d0 := hac2.cell (j := 0) (u := .int .i64 x.off) rfl
  have d1 := hac2.cell (j := 1) (u := .int .i64 x.len) rfl
  have d2 := hac2.cell (j := 2) (u := .int .i64 x.phys) rfl
  have d3 := hac2.cell (j := 3) (u := .int .i64 x.birth) rfl
  go_wp2_with fail
  refine (may_ _ x fx).mono ?_
  rw [hm]
  rintro e w3 ⟨rfl, hb3⟩
  clear d0 d1 d2 d3
  have hb13 := below_step hb2 hb3 (Nat.le_refl _)
  have hH4 := held_new w3 w1.heap.size hb13.size rfl
  have hb14 : Below w1.heap.size w1 (w3.alloc (.cells #[.slice none 0 0] 42)) := hb13.alloc hb13.size _
  have hac4 := hac.keep hb14
  have d0 := hac4.cell (j := 0) (u := .int .i64 x.off) rfl
  go_wp2_with fail
  refine (parts_put w1 w3.heap.size pushL (fun W l x q1 q2 q3 q4 q5 => keep_ W _ _ l x q1 q2 q3 q4 q5) (fun l x => mays_push) push_length A n c l h1 hml 0 x.off (by unfold I64; omega) fx.off [] 0 (by omega) _ hb14 ⟨hH4, mays_nil, Nat.le_refl _⟩).mono ?_
  rintro e w5 ⟨rfl, hH5, hb15⟩
  clear d0 hH4 hb14 hac4
  have hac5 := hac.keep hb15
  have d0 := hac5.cell (j := 0) (u := .int .i64 x.off) rfl
  have d1 := hac5.cell (j := 1) (u := .int .i64 x.len) rfl
  have d2 := hac5.cell (j := 2) (u := .int .i64 x.phys) rfl
  have d3 := hac5.cell (j := 3) (u := .int .i64 x.birth) rfl
  go_wp2_with fail
  refine (keep_ _ w1.heap.size w3.heap.size _ x hH5.held hb15.size (by have := hH5.len; omega) hH5.mays hm).mono ?_
  rintro e w6 ⟨rfl, hH6, hb56⟩
  clear d0 d1 d2 d3
  have hb16 := hb15.trans hb56
  have hac6 := hac.keep hb16
  have d0 := hac6.cell (j := 0) (u := .int .i64 x.off) rfl
  have d1 := hac6.cell (j := 1) (u := .int .i64 x.len) rfl
  have hw := Hwl.out
  go_wp2_with fail
  refine (parts_put w1 w3.heap.size pushL (fun W l x q1 q2 q3 q4 q5 => keep_ W _ _ l x q1 q2 q3 q4 q5) (fun l x => mays_push) push_length A n c l h1 hml (x.off + x.len) 1024 (by unfold I64; omega) (by unfold I64; omega) _ (0 + n + 1) (by omega) _ hb16 ⟨hH6, mays_push hH5.mays hm, Nat.le_trans (push_length _ _) (Nat.succ_le_succ hH5.len)⟩).mono ?_
  rw [Hfold.out]
  rintro e w7 ⟨rfl, hH7, hb17⟩
  clear d0 d1
  obtain ⟨v, m, hv, ho⟩ := hH7.held.row
  have c0 := hv.cell (j := 0) (u := v) rfl
  go_wp2
  go_ret2
  exact ⟨v, m, rfl, ho.mono (by omega), hba.trans (hb17.mono hba.size)⟩
set_option maxRecDepth 100000 in
set_option maxHeartbeats 1000000 in
theorem cut_no (A : Option Addr) (n c : Nat) (l : List Ext) (o k : Int) (h : Es w A n l) (hn : n ≤ 9223372036854775807) (fo : I64 o) (fk : I64 k) (hb : ¬ (rightB l = true ∧ rangeB o k = true)) :
    Calls Try.prog 49 #[.slice A n c, .int .i64 o, .int .i64 k] w fun e w' => e = .returned (.tuple #[.slice none 0 0, .int .i64 1]) ∧ Below w.heap.size w w' := by
  cases hr : rightB l with
  | false =>
    go_enter Try.func49, Try.ntmps49
    go_wp2_with fail
    refine (right_ _ A n c l h hn).mono ?_
    rw [hr]
    rintro e w2 ⟨rfl, hb2⟩
    go_wp2
    go_ret2
    exact ⟨rfl, hb2⟩
  | true =>
    have hm : rangeB o k = false := by
      rw [Bool.eq_false_iff]; intro e; exact hb ⟨hr, e⟩
    go_enter Try.func49, Try.ntmps49
    go_wp2_with fail
    refine (right_ _ A n c l h hn).mono ?_
    rw [hr]
    rintro e w2 ⟨rfl, hb2⟩
    go_wp2_with fail
    refine (blocks_ _ o k fo fk).mono ?_
    rw [hm]
    rintro e w3 ⟨rfl, rfl⟩
    go_wp2
    go_ret2
    exact ⟨rfl, hb2⟩
set_option maxRecDepth 100000 in
set_option maxHeartbeats 2000000 in
theorem cut_ok (A : Option Addr) (n c : Nat) (l : List Ext) (o k : Int) (h : Es w A n l) (hr : rightB l = true) (hm : rangeB o k = true) :
    Calls Try.prog 49 #[.slice A n c, .int .i64 o, .int .i64 k] w fun e w' => ∃ v m, e = .returned (.tuple #[v, .int .i64 0]) ∧ Eo w' w.heap.size v m (cutL l o k) ∧ Below w.heap.size w w' := by
  have hlen := h.len
  have hsh := right_short hr
  have hok := range_is.1 hm
  have hml := mays_right hr
  have Hfold := Lib.hid (fold_cut l o k)
  have hn : n ≤ 1024 := by omega
  have fo : I64 o := by unfold I64; omega
  have fk : I64 k := by unfold I64; omega
  have Hwl := Lib.hid (show IntKind.i64.wrap (o + k) = o + k by rw [IntKind.wrap_i64]; omega)
  clear hlen hsh
  go_enter Try.func49, Try.ntmps49
  go_wp2_with fail
  refine (right_ _ A n c l h (by omega)).mono ?_
  rw [hr]
  rintro e w2 ⟨rfl, hb2⟩
  go_wp2_with fail
  refine (blocks_ _ o k fo fk).mono ?_
  rw [hm]
  rintro e w3 ⟨rfl, rfl⟩
  have hH4 := held_new w2 w.heap.size hb2.size rfl
  have hb4 : Below w.heap.size w (w2.alloc (.cells #[.slice none 0 0] 42)) := hb2.alloc hb2.size _
  go_wp2_with fail
  refine (parts_cut w w2.heap.size appL (fun W l x q1 q2 q3 q4 q5 => cutf_ W _ _ l x q1 q2 q3 q4 q5) (fun l x => mays_app) app_length A n c l h hml 0 o (by unfold I64; omega) fo [] 0 (by omega) _ hb4 ⟨hH4, mays_nil, Nat.le_refl _⟩).mono ?_
  rintro e w5 ⟨rfl, hH5, hb5⟩
  have hw := Hwl.out
  go_wp2_with fail
  refine (parts_cut w w2.heap.size appL (fun W l x q1 q2 q3 q4 q5 => cutf_ W _ _ l x q1 q2 q3 q4 q5) (fun l x => mays_app) app_length A n c l h hml (o + k) 1024 (by unfold I64; omega) (by unfold I64; omega) _ (0 + n) (by omega) _ hb5 hH5).mono ?_
  rw [Hfold.out]
  rintro e w7 ⟨rfl, hH7, hb7⟩
  obtain ⟨v, m, hv, ho⟩ := hH7.held.row
  have c0 := hv.cell (j := 0) (u := v) rfl
  go_wp2
  go_ret2
  exact ⟨v, m, rfl, ho, hb7⟩
set_option maxRecDepth 100000 in
set_option maxHeartbeats 1000000 in
theorem part_no (A : Option Addr) (n c : Nat) (l : List Ext) (o k : Int) (h : Es w A n l) (hn : n ≤ 9223372036854775807) (fo : I64 o) (fk : I64 k) (hb : ¬ (rightB l = true ∧ rangeB o k = true)) :
    Calls Try.prog 35 #[.slice A n c, .int .i64 o, .int .i64 k] w fun e w' => e = .returned (.tuple #[.slice none 0 0, .int .i64 1]) ∧ Below w.heap.size w w' := by
  cases hr : rightB l with
  | false =>
    go_enter Try.func35, Try.ntmps35
    go_wp2_with fail
    refine (right_ _ A n c l h hn).mono ?_
    rw [hr]
    rintro e w2 ⟨rfl, hb2⟩
    go_wp2
    go_ret2
    exact ⟨rfl, hb2⟩
  | true =>
    have hm : rangeB o k = false := by
      rw [Bool.eq_false_iff]; intro e; exact hb ⟨hr, e⟩
    go_enter Try.func35, Try.ntmps35
    go_wp2_with fail
    refine (right_ _ A n c l h hn).mono ?_
    rw [hr]
    rintro e w2 ⟨rfl, hb2⟩
    go_wp2_with fail
    refine (blocks_ _ o k fo fk).mono ?_
    rw [hm]
    rintro e w3 ⟨rfl, rfl⟩
    go_wp2
    go_ret2
    exact ⟨rfl, hb2⟩
set_option maxRecDepth 100000 in
set_option maxHeartbeats 2000000 in
theorem part_ok (A : Option Addr) (n c : Nat) (l : List Ext) (o k : Int) (h : Es w A n l) (hr : rightB l = true) (hm : rangeB o k = true) :
    Calls Try.prog 35 #[.slice A n c, .int .i64 o, .int .i64 k] w fun e w' => ∃ v m, e = .returned (.tuple #[v, .int .i64 0]) ∧ Eo w' w.heap.size v m (partL l o (o + k)) ∧ Below w.heap.size w w' := by
  have hlen := h.len
  have hsh := right_short hr
  have hok := range_is.1 hm
  have hml := mays_right hr
  have Hfold := Lib.hid (show (partL l o (o + k)).foldl appL [] = partL l o (o + k) by rw [fold_app]; rfl)
  have hn : n ≤ 1024 := by omega
  have fo : I64 o := by unfold I64; omega
  have fk : I64 k := by unfold I64; omega
  have Hwl := Lib.hid (show IntKind.i64.wrap (o + k) = o + k by rw [IntKind.wrap_i64]; omega)
  clear hlen hsh
  go_enter Try.func35, Try.ntmps35
  go_wp2_with fail
  refine (right_ _ A n c l h (by omega)).mono ?_
  rw [hr]
  rintro e w2 ⟨rfl, hb2⟩
  go_wp2_with fail
  refine (blocks_ _ o k fo fk).mono ?_
  rw [hm]
  rintro e w3 ⟨rfl, rfl⟩
  have hH4 := held_new w2 w.heap.size hb2.size rfl
  have hb4 : Below w.heap.size w (w2.alloc (.cells #[.slice none 0 0] 42)) := hb2.alloc hb2.size _
  have hw := Hwl.out
  go_wp2_with fail
  refine (parts_part w w2.heap.size appL (fun W l x q1 q2 q3 q4 q5 => partf_ W _ _ l x q1 q2 q3 q4 q5) (fun l x => mays_app) app_length A n c l h hml o (o + k) fo (by unfold I64; omega) [] 0 (by omega) _ hb4 ⟨hH4, mays_nil, Nat.le_refl _⟩).mono ?_
  rw [Hfold.out]
  rintro e w7 ⟨rfl, hH7, hb7⟩
  obtain ⟨v, m, hv, ho⟩ := hH7.held.row
  have c0 := hv.cell (j := 0) (u := v) rfl
  go_wp2
  go_ret2
  exact ⟨v, m, rfl, ho, hb7⟩
end
end Go.Proofs.Ytiehhmchokbafaa
