/- Layer 6: the document's part: what of a list lies from one block to ahead of another one. -/
import Derived.Test.YtiehhmchokbafaaEmpJ
set_option linter.all false
namespace Go.Proofs.Ytiehhmchokbafaa
open Go.RowKit

section
variable (w : World)
set_option maxRecDepth 100000 in
set_option maxHeartbeats 4000000 in
theorem rpart_ (A : Option Addr) (n c : Nat) (l : List Ext) (a b : Int) (ha : I64 a) (hbb : I64 b) (h : Es w A n l) (hml : mays l) (hn : n ≤ 50000) :
    Calls Try.prog 37 #[.slice A n c, .int .i64 a, .int .i64 b] w fun e w' => ∃ v m, e = .returned v ∧ Eo w' w.heap.size v m (partL l a b) ∧ mays (partL l a b) ∧ m ≤ n ∧ Below w.heap.size w w' := by
  obtain ⟨i0, hi0, hz0, hz1, hz2⟩ := ext_info
  have Hz := Lib.hid hz2
  clear hz2
  have Hl := Lib.hid h.len
  unfold I64 at ha hbb
  go_enter Try.func37, Try.ntmps37
  go_wp2_with fail
  go_loopw [7, 8] (fun fv iv wr => ∃ (k : Nat) (cur : List Ext), k ≤ n ∧ iv = .int .i64 (k : Int) ∧ Own wr w.heap.size fv cur k ∧ cur ++ partL (l.drop k) a b = partL l a b ∧ Below w.heap.size w wr) (fun _ iv _ => n - (intOf iv).toNat)
  case atStart => exact ⟨0, [], Nat.zero_le _, rfl, ⟨⟨0, eo_nil _ _⟩, mays_nil, Nat.le_refl _⟩, rfl, Below.refl _ _⟩
  case round =>
    obtain ⟨k, cur, hk, rfl, ⟨⟨nc, hO⟩, hcm, hcl⟩, hfold, hb⟩ := hrel
    obtain ⟨A5, c5, rfl, -, -, -⟩ := own_form hO
    have hnc := eo_len hO
    have hnc2 : nc ≤ 50000 := by omega
    have Hnc := Lib.hid hnc
    clear hnc
    by_cases hlt : k < n
    · have hil : (k : Int) < (n : Int) := by omega
      have hk0 : (0 : Int) ≤ (k : Int) := by omega
      obtain ⟨q, o, rfl, x, hx, fx, d0, d1, d2, d3⟩ := (h.below hb).at_ hlt
      have hxm := hml x (List.mem_of_getElem? hx)
      have hxl := may_len hxm
      rw [drop_of hx, part_cons] at hfold
      have hba : Below wr.heap.size wr (wr.alloc (.cells #[.int .i64 x.off, .int .i64 x.len, .int .i64 x.phys, .int .i64 x.birth] 24)) := (Below.refl _ _).alloc (Nat.le_refl _) _
      have hac := Blk.new wr 24 #[.int .i64 x.off, .int .i64 x.len, .int .i64 x.phys, .int .i64 x.birth] rfl
      have hB1 := below_step hb hba (Nat.le_refl _)
      have hO1 := own_keep hO hba
      have hbs := hB1.size
      obtain ⟨lo, hlo⟩ : ∃ lo, max x.off a = lo := ⟨_, rfl⟩
      obtain ⟨hi, hhi⟩ : ∃ hi, min (x.off + x.len) b = hi := ⟨_, rfl⟩
      have hwx : IntKind.i64.wrap (x.off + x.len) = x.off + x.len := by rw [IntKind.wrap_i64]; omega
      by_cases hlh : lo < hi
      · have hc := clip_is hlo hhi hlh
        have Hcm := Lib.hid (clip_may hxm hc)
        rw [hc] at hfold
        have Hf := Lib.hid hfold
        have hw1 : IntKind.i64.wrap (hi - lo) = hi - lo := by rw [IntKind.wrap_i64]; omega
        have hw2 : IntKind.i64.wrap (x.phys + lo) = x.phys + lo := by rw [IntKind.wrap_i64]; omega
        have hw3 : IntKind.i64.wrap (x.phys + lo - x.off) = x.phys + lo - x.off := by rw [IntKind.wrap_i64]; omega
        clear hc hfold h hO
        go_wp2_with fail
        go_region
        have hOD : Eo (wr.alloc (.cells #[.int .i64 x.off, .int .i64 x.len, .int .i64 x.phys, .int .i64 x.birth] 24)).drew w.heap.size (.slice A5 nc c5) nc cur := hO1
        have hBD := hB1.drew
        have hsD : (wr.alloc (.cells #[.int .i64 x.off, .int .i64 x.len, .int .i64 x.phys, .int .i64 x.birth] 24)).drew.heap.size = wr.heap.size + 1 := by simp
        have e0 : (wr.alloc (.cells #[.int .i64 x.off, .int .i64 x.len, .int .i64 x.phys, .int .i64 x.birth] 24)).drew.cell? ⟨wr.heap.size, 0, none⟩ = some (.int .i64 x.off) := hac.cell rfl
        have e2 : (wr.alloc (.cells #[.int .i64 x.off, .int .i64 x.len, .int .i64 x.phys, .int .i64 x.birth] 24)).drew.cell? ⟨wr.heap.size, 2, none⟩ = some (.int .i64 x.phys) := hac.cell rfl
        have e3 : (wr.alloc (.cells #[.int .i64 x.off, .int .i64 x.len, .int .i64 x.phys, .int .i64 x.birth] 24)).drew.cell? ⟨wr.heap.size, 3, none⟩ = some (.int .i64 x.birth) := hac.cell rfl
        generalize (wr.alloc (.cells #[.int .i64 x.off, .int .i64 x.len, .int .i64 x.phys, .int .i64 x.birth] 24)).drew = w2 at *
        have hbs2 := hBD.size
        go_wp2_with (first
          | (at_builtin
             go_must (refine wpList_app _ rfl (.tmp 36) (.tmp 51) _ rfl w.heap.size 24 i0 _ 4 32 Try.underlying42 hi0 hz0 hz1 Hz.out rfl (by decide) _ nc _ rfl (own_keep hOD ((Below.refl _ _).alloc (Nat.le_refl _) _)) _ 1 1 (ev ⟨lo, hi - lo, x.phys + lo - x.off, x.birth⟩) rfl (fun h => by cases h) (rd_one (x := ⟨lo, hi - lo, x.phys + lo - x.off, x.birth⟩) hsD.symm) (by intro u hu; exact evs_one [_] u (by simpa [evs] using hu)) (by unfold maxLen; omega) (by omega) (by simp; omega) ?_)
             intro v3 w3 hown3 hg3 hat3
             have hO3 : Eo w3 w.heap.size v3 (nc + 1) (cur ++ [⟨lo, hi - lo, x.phys + lo - x.off, x.birth⟩]) := eo_of hown3 (evs_snoc _ _).symm
             have hB3 : Below w.heap.size w w3 := (hBD.alloc hBD.size _).grown hg3 (by simp; omega) (own_from hOD)))
        go_roundw
        case rel => exact ⟨k + 1, _, by omega, by go_num, ⟨⟨nc + 1, hO3⟩, mays_snoc hcm Hcm.out, by simp; omega⟩, by rw [← Hf.out]; simp, hB3⟩
        case measure => simp [intOf]; omega
      · have hc := clip_not hlo hhi hlh
        rw [hc] at hfold
        have Hf := Lib.hid hfold
        clear hc hfold h hO
        go_wp2_with fail
        go_region
        go_wp2
        go_roundw
        case rel => exact ⟨k + 1, cur, by omega, by go_num, ⟨⟨nc, hO1⟩, hcm, by omega⟩, Hf.out, hB1.drew⟩
        case measure => simp [intOf]; omega
    · have hin : (n : Int) ≤ (k : Int) := by omega
      have hd : l.drop k = [] := list_done Hl.out (by omega)
      rw [hd] at hfold
      have Hf := Lib.hid (show cur = partL l a b by rw [← hfold]; simp [partL])
      clear hfold hd
      go_wp2
      go_ret
      rw [← Hf.out]
      exact ⟨_, nc, rfl, hO, hcm, by have := Hnc.out; omega, hb⟩
end
end Go.Proofs.Ytiehhmchokbafaa
