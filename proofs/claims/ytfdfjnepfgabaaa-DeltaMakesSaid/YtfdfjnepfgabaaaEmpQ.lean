/- Layer 6: the document's Form, Part, Cut. -/
import Derived.Test.YtfdfjnepfgabaaaEmpK
import Derived.Test.YtfdfjnepfgabaaaEmpSr
set_option linter.all false
namespace Go.Proofs.Ytfdfjnepfgabaaa
open Go.RowKit

section
variable (w : World)
set_option maxRecDepth 100000 in
set_option maxHeartbeats 1000000 in
theorem rcut_no (A : Option Addr) (n c : Nat) (l : List Ext) (o k : Int) (h : Es w A n l) (hn : n ≤ 9223372036854775807) (fo : I64 o) (fk : I64 k) (hb : ¬ (rightB l = true ∧ rangeB o k = true)) :
    Calls Try.prog 24 #[.slice A n c, .int .i64 o, .int .i64 k] w fun e w' => e = .returned (.tuple #[.slice none 0 0, .int .i64 1]) ∧ Below w.heap.size w w' := by
  cases hr : rightB l with
  | false =>
    go_enter Try.func24, Try.ntmps24
    go_wp2_with fail
    refine (rright_ _ A n c l h hn).mono ?_
    rw [hr]
    rintro e w2 ⟨rfl, hb2⟩
    go_wp2
    go_ret2
    exact ⟨rfl, hb2⟩
  | true =>
    have hm : rangeB o k = false := by
      rw [Bool.eq_false_iff]; intro e; exact hb ⟨hr, e⟩
    go_enter Try.func24, Try.ntmps24
    go_wp2_with fail
    refine (rright_ _ A n c l h hn).mono ?_
    rw [hr]
    rintro e w2 ⟨rfl, hb2⟩
    go_wp2_with fail
    refine (rrange_ _ o k fo fk).mono ?_
    rw [hm]
    rintro e w3 ⟨rfl, rfl⟩
    go_wp2
    go_ret2
    exact ⟨rfl, hb2⟩
set_option maxRecDepth 100000 in
set_option maxHeartbeats 2000000 in
theorem rcut_ok (A : Option Addr) (n c : Nat) (l : List Ext) (o k : Int) (h : Es w A n l) (hr : rightB l = true) (hm : rangeB o k = true) :
    Calls Try.prog 24 #[.slice A n c, .int .i64 o, .int .i64 k] w fun e w' => ∃ v m, e = .returned (.tuple #[v, .int .i64 0]) ∧ Eo w' w.heap.size v m (cutL l o k) ∧ Below w.heap.size w w' := by
  obtain ⟨i0, hi0, hz0, hz1, hz2⟩ := ext_info
  have Hz := Lib.hid hz2
  clear hz2
  have hlen := h.len
  have hsh := right_short hr
  have hok := range_is.1 hm
  have hml := mays_right hr
  have hn : n ≤ 1024 := by omega
  have fo : I64 o := by unfold I64; omega
  have fk : I64 k := by unfold I64; omega
  have Hwl := Lib.hid (show IntKind.i64.wrap (o + k) = o + k by rw [IntKind.wrap_i64]; omega)
  clear hlen hsh
  go_enter Try.func24, Try.ntmps24
  go_wp2_with fail
  refine (rright_ _ A n c l h (by omega)).mono ?_
  rw [hr]
  rintro e w2 ⟨rfl, hb2⟩
  go_wp2_with fail
  refine (rrange_ _ o k fo fk).mono ?_
  rw [hm]
  rintro e w3 ⟨rfl, rfl⟩
  go_wp2_with fail
  refine (rpart_ w2 A n c l 0 o (by unfold I64; omega) fo (h.below hb2) hml (by omega)).mono ?_
  rintro e w3 ⟨v1, m1, rfl, ho1, -, hm1, hb3⟩
  have hb3' := below_step hb2 hb3 (Nat.le_refl _)
  have hw := Hwl.out
  go_wp2_with fail
  refine (rpart_ w3 A n c l (o + k) 1024 (by unfold I64; omega) (by unfold I64; omega) (h.below hb3') hml (by omega)).mono ?_
  rintro e w4 ⟨v2, m2, rfl, ho2, -, hm2, hb4⟩
  have hb4' := below_step hb3' hb4 (Nat.le_refl _)
  have ho14 : Eo w4 w.heap.size v1 m1 _ := (own_keep ho1 hb4).mono hb2.size
  obtain ⟨A1, c1, rfl, -, -, -⟩ := own_form ho1
  obtain ⟨A2, c2, rfl, hc2, hc3, hA2⟩ := own_form ho2
  go_wp2_with (first
    | (at_builtin
       go_must (refine wpList_app _ rfl (.tmp 19) (.tmp 24) _ rfl w.heap.size 57 i0 _ 4 32 Try.underlying22 hi0 hz0 hz1 Hz.out rfl (by decide) _ m1 _ rfl ho14 _ m2 c2 _ rfl (fun h => (hA2 h).1) (rd_own ho2) (evs_one _) (by unfold maxLen; omega) (by omega) hb4'.size ?_)
       intro v5 w5 hown5 hg5 hat5))
  go_ret2
  exact ⟨v5, m1 + m2, rfl, eo_of hown5 (evs_app _ _).symm, hb4'.grown hg5 hb4'.size (own_from ho14)⟩
set_option maxRecDepth 100000 in
set_option maxHeartbeats 1000000 in
theorem rput_no (A : Option Addr) (n c : Nat) (l : List Ext) (x : Ext) (h : Es w A n l) (hn : n ≤ 9223372036854775807) (fx : Fit x) (hb : ¬ (rightB l = true ∧ x.may = true)) :
    Calls Try.prog 23 #[.slice A n c, .agg #[.int .i64 x.off, .int .i64 x.len, .int .i64 x.phys, .int .i64 x.birth]] w fun e w' => e = .returned (.tuple #[.slice none 0 0, .int .i64 1]) ∧ Below w.heap.size w w' := by
  have hac := Blk.new w 57 #[.int .i64 x.off, .int .i64 x.len, .int .i64 x.phys, .int .i64 x.birth] rfl
  have hba : Below w.heap.size w (w.alloc (.cells #[.int .i64 x.off, .int .i64 x.len, .int .i64 x.phys, .int .i64 x.birth] 57)) := (Below.refl _ _).alloc (Nat.le_refl _) _
  have h1 := h.below hba
  cases hr : rightB l with
  | false =>
    go_enter Try.func23, Try.ntmps23
    go_wp2_with fail
    refine (rright_ _ A n c l h1 hn).mono ?_
    rw [hr]
    rintro e w2 ⟨rfl, hb2⟩
    go_wp2
    go_ret2
    exact ⟨rfl, below_step hba hb2 (Nat.le_refl _)⟩
  | true =>
    have hm : x.may = false := by
      rw [Bool.eq_false_iff]; intro e; exact hb ⟨hr, e⟩
    go_enter Try.func23, Try.ntmps23
    go_wp2_with fail
    refine (rright_ _ A n c l h1 hn).mono ?_
    rw [hr]
    rintro e w2 ⟨rfl, hb2⟩
    have d0 := (hac.keep hb2).cell (j := 0) (u := .int .i64 x.off) rfl
    have d1 := (hac.keep hb2).cell (j := 1) (u := .int .i64 x.len) rfl
    have d2 := (hac.keep hb2).cell (j := 2) (u := .int .i64 x.phys) rfl
    have d3 := (hac.keep hb2).cell (j := 3) (u := .int .i64 x.birth) rfl
    go_wp2_with fail
    refine (rmay_ _ x fx).mono ?_
    rw [hm]
    rintro e w3 ⟨rfl, hb3⟩
    go_wp2
    go_ret2
    exact ⟨rfl, below_step (below_step hba hb2 (Nat.le_refl _)) hb3 (Nat.le_refl _)⟩
end
end Go.Proofs.Ytfdfjnepfgabaaa
