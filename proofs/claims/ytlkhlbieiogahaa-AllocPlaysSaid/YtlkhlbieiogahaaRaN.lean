/- Layer 5: the document's allocator: Settle, New. -/
import Derived.Deep.RegionHeld3
import Derived.Test.YtlkhlbieiogahaaRaB
namespace Go.Proofs.Ytlkhlbieiogahaa
open Go.RowKit Go.Maps

theorem info_bool_ : (Try.prog.info? 4).map (fun i => (i.zero, i.size, i.bytes)) = some (some (.bool false), 1, 1) := by kernel_rfl
set_option maxRecDepth 100000 in
set_option maxHeartbeats 1000000 in
theorem rsettle_ (p q r N : Nat) (c : Nat → Int) (w : World) (h : Ra w p q r N c) : Calls Try.prog 19 #[.pointer (some ⟨r, 0, none⟩)] w fun e w' => ∃ q', e = .returned (.int .i64 (waitR N c)) ∧ Ra w' p q' r N (settleC N c) ∧ w.heap.size ≤ q' ∧ Kp (PQR p q r) w w' := by
  obtain ⟨i0, hi0, hz0, hz1, hz2⟩ := parts_of info_bool_
  have Hz := Lib.hid hz2
  clear hz2
  have hm := h.most
  go_enter Try.func19, Try.ntmps19
  go_wp2_with fail
  refine (rwaiting_ p q r N c w h).mono ?_
  rintro e w' ⟨rfl, rfl⟩
  have c1 := h.self.cell (j := 1) (u := .slice (some ⟨q, 0, none⟩) N N) rfl
  go_wp2_with (first
    | (at_make
       refine wpList_make_blk _ rfl _ _ 28 rfl 4 i0 _ 1 1 Try.underlying28 hi0 hz0 hz1 Hz.out .i64 .i64 _ _ N rfl rfl rfl rfl (by omega) (by omega) ?_
       intro w1 hk1 hb1 hs1
       have hsf := (h.self.keep hb1).free 1
       have hsc := (h.self.keep hb1).cell (j := 1) (u := .slice (some ⟨q, 0, none⟩) N N) rfl)
    | fail)
  rw [Nat.mul_one, show (Value.bool false).cells = #[.bool false] from rfl, made_rowA] at hk1
  have ht : Tn r (r + 1) w1 (w1.setCell ⟨r, 1, none⟩ (.slice (some ⟨w.heap.size, 0, none⟩) N N)) := Tn.set _ _ _ (Nat.le_refl _) (Nat.lt_succ_self _)
  have hrl := h.self.lt
  have hpl := h.cnt.lt
  have hpr := h.pr
  have hh : hd (settleC N c) = hd c := by
    funext j
    unfold hd settleC upd settleF
    split
    · split
      · rename_i e; rw [e]; decide
      · rfl
    · rfl
  have hwt : rowA N (wt (settleC N c)) = rowA N (fun _ => .bool false) := rowA_congr fun j hj => by
    unfold wt settleC upd settleF
    rw [if_pos (by omega)]
    split
    · rfl
    · rename_i e; simp [e]
  go_ret
  refine ⟨w.heap.size, rfl, ⟨by rw [hh]; exact ht.blk (h.cnt.keep hb1) (by omega), by rw [hwt]; exact ht.blk hk1 (by omega), (h.self.keep hb1).setCell 1 _, h.most, h.least, h.rng.settle, by omega, hpr, by omega⟩, Nat.le_refl _, (Kp.ofBelow hb1).trans (Kp.set _ _ _ (.inr (.inr rfl)))⟩

set_option maxRecDepth 100000 in
theorem rnew_bad (k : Int) (w : World) (hk : ¬ (1 ≤ k ∧ k ≤ 4096)) : Calls Try.prog 10 #[.int .i64 k] w fun e w' => e = .returned (.tuple #[.agg #[.slice none 0 0, .slice none 0 0], .int .i64 1]) ∧ Below w.heap.size w w' := by
  by_cases h1 : k < 1
  · clear hk
    go_enter Try.func10, Try.ntmps10
    go_wp2
    have hrow := (Blk.new w 30 #[.slice none 0 0, .slice none 0 0] rfl)
    have hld := run_loadVar_row (P := Try.prog) _ w.heap.size _ 30 _ (0, 0) _ hrow Try.underlying30 rfl (by kernel_rfl)
    refine bodyPost_ret (v := .tuple #[.agg #[.slice none 0 0, .slice none 0 0], .int .i64 1]) ?_ rfl ⟨rfl, (Below.refl _ _).alloc (Nat.le_refl _) _⟩
    rw [results_cell_tmp rfl]
    simp [asAddr, Result.andThen, hld]
  · have h2 : (4096 : Int) < k := by omega
    clear hk
    go_enter Try.func10, Try.ntmps10
    go_wp2
    have hrow := (Blk.new w 30 #[.slice none 0 0, .slice none 0 0] rfl)
    have hld := run_loadVar_row (P := Try.prog) _ w.heap.size _ 30 _ (0, 0) _ hrow Try.underlying30 rfl (by kernel_rfl)
    refine bodyPost_ret (v := .tuple #[.agg #[.slice none 0 0, .slice none 0 0], .int .i64 1]) ?_ rfl ⟨rfl, (Below.refl _ _).alloc (Nat.le_refl _) _⟩
    rw [results_cell_tmp rfl]
    simp [asAddr, Result.andThen, hld]

set_option maxRecDepth 100000 in
set_option maxHeartbeats 1000000 in
theorem rnew_ (n : Nat) (w : World) (h1 : 0 < n) (h2 : n ≤ 4096) : Calls Try.prog 10 #[.int .i64 (n : Int)] w fun e w' => ∃ p q, e = .returned (.tuple #[.agg #[.slice (some ⟨p, 0, none⟩) n n, .slice (some ⟨q, 0, none⟩) n n], .int .i64 0]) ∧
    w.heap.size ≤ p ∧ w.heap.size ≤ q ∧ p ≠ q ∧ Blk w' p 3 (rowA n (fun _ => .int .i64 0)) ∧ Blk w' q 4 (rowA n (fun _ => .bool false)) ∧ Below w.heap.size w w' := by
  obtain ⟨i0, hi0, hz0, hz1, hz2⟩ := parts_of info_bool_
  obtain ⟨j0, hj0, hy0, hy1, hy2⟩ := parts_of info_int
  have Hz := Lib.hid hz2
  have Hy := Lib.hid hy2
  clear hz2 hy2
  go_enter Try.func10, Try.ntmps10
  have hr0 := Blk.new w 30 #[.slice none 0 0, .slice none 0 0] (g := w.heap.size) rfl
  have hB0 : Below w.heap.size w (w.alloc (.cells #[.slice none 0 0, .slice none 0 0] 30)) := (Below.refl _ _).alloc (Nat.le_refl _) _
  have hs0 : (w.alloc (.cells #[.slice none 0 0, .slice none 0 0] 30)).heap.size = w.heap.size + 1 := by simp
  go_wp2_with fail
  generalize (w.alloc (.cells #[.slice none 0 0, .slice none 0 0] 30)) = w2 at *
  go_region_held3 (fun _ => True) (first | exact trivial)
    (first
      | (refine upon_make _ 27 3 j0 _ 1 8 Try.underlying27 hj0 hy0 hy1 Hy.out .i64 .i64 _ _ n rfl rfl (by omega) (by omega) ?_
         intro w3 hk3 hb3 hs3
         have hr3 : Blk w3 w.heap.size 30 #[.slice none 0 0, .slice none 0 0] := (by first | exact Blk.keep (w := w2.drew) hr0 hb3 | exact hr4.keep hb3)
         have c30 := hr3.cell (j := 0) (u := .slice none 0 0) rfl
         have c31 := hr3.cell (j := 1) (u := .slice none 0 0) rfl
         have f30 := hr3.free 0
         have f31 := hr3.free 1)
      | (refine upon_make _ 28 4 i0 _ 1 1 Try.underlying28 hi0 hz0 hz1 Hz.out .i64 .i64 _ _ n rfl rfl (by omega) (by omega) ?_
         intro w4 hk4 hb4 hs4
         have hr4 : Blk w4 w.heap.size 30 #[.slice none 0 0, .slice none 0 0] := (by first | exact Blk.keep (w := w2.drew) hr0 hb4 | exact hr3.keep hb4)
         have c40 := hr4.cell (j := 0) (u := .slice none 0 0) rfl
         have c41 := hr4.cell (j := 1) (u := .slice none 0 0) rfl
         have f40 := hr4.free 0
         have f41 := hr4.free 1))
  · have e1 : w2.drew.heap.size = w.heap.size + 1 := hs0
    have e2 : w3.heap.size = w.heap.size + 1 + 1 := by rw [hs3, e1]
    have hbF : Below w2.heap.size w2 w3 := ⟨hb3.os, hb3.tape, hb3.output, hb3.size, hb3.block⟩
    have hbL := hb4
    rw [Nat.mul_one, show (Value.int IntKind.i64 0).cells = #[.int .i64 0] from rfl, made_rowA] at hk3
    rw [Nat.mul_one, show (Value.bool false).cells = #[.bool false] from rfl, made_rowA] at hk4
    have hkF := hk3.keep hbL
    have hkL := hk4
    rw [e1] at hkF
    rw [e2] at hkL
    have hrow := (hr4.setCell 0 (.slice (some ⟨w.heap.size + 1, 0, none⟩) n n)).setCell 1 (.slice (some ⟨w.heap.size + 1 + 1, 0, none⟩) n n)
    have ht : Tn w.heap.size (w.heap.size + 1) w4 ((w4.setCell ⟨w.heap.size, 0, none⟩ (.slice (some ⟨w.heap.size + 1, 0, none⟩) n n)).setCell ⟨w.heap.size, 1, none⟩ (.slice (some ⟨w.heap.size + 1 + 1, 0, none⟩) n n)) :=
      (Tn.set _ _ _ (Nat.le_refl _) (Nat.lt_succ_self _)).trans (Tn.set _ _ _ (Nat.le_refl _) (Nat.lt_succ_self _))
    have hB := (hB0.trans (hbF.mono (by omega))).trans (hbL.mono (by omega))
    have hB2 := hB.trans (ht.below (Nat.le_refl _) hB.size)
    have hkF2 := ht.blk hkF (by omega)
    have hkL2 := ht.blk hkL (by omega)
    generalize ((w4.setCell ⟨w.heap.size, 0, none⟩ (.slice (some ⟨w.heap.size + 1, 0, none⟩) n n)).setCell ⟨w.heap.size, 1, none⟩ (.slice (some ⟨w.heap.size + 1 + 1, 0, none⟩) n n)) = w9 at *
    go_wp2
    have hld := run_loadVar_row (P := Try.prog) _ w.heap.size _ 30 _ (0, 0) _ hrow Try.underlying30 rfl (by kernel_rfl)
    refine bodyPost_ret (v := .tuple #[.agg #[.slice (some ⟨w.heap.size + 1, 0, none⟩) n n, .slice (some ⟨w.heap.size + 1 + 1, 0, none⟩) n n], .int .i64 0]) ?_ rfl ⟨w.heap.size + 1, w.heap.size + 1 + 1, rfl, by omega, by omega, by omega, hkF2, hkL2, hB2⟩
    rw [results_cell_tmp rfl]
    simp [asAddr, Result.andThen, hld]
  · have e1 : w2.drew.heap.size = w.heap.size + 1 := hs0
    have e2 : w4.heap.size = w.heap.size + 1 + 1 := by rw [hs4, e1]
    have hbF : Below w2.heap.size w2 w4 := ⟨hb4.os, hb4.tape, hb4.output, hb4.size, hb4.block⟩
    have hbL := hb3
    rw [Nat.mul_one, show (Value.int IntKind.i64 0).cells = #[.int .i64 0] from rfl, made_rowA] at hk3
    rw [Nat.mul_one, show (Value.bool false).cells = #[.bool false] from rfl, made_rowA] at hk4
    have hkF := hk4.keep hbL
    have hkL := hk3
    rw [e1] at hkF
    rw [e2] at hkL
    have hrow := (hr3.setCell 0 (.slice (some ⟨w.heap.size + 1 + 1, 0, none⟩) n n)).setCell 1 (.slice (some ⟨w.heap.size + 1, 0, none⟩) n n)
    have ht : Tn w.heap.size (w.heap.size + 1) w3 ((w3.setCell ⟨w.heap.size, 0, none⟩ (.slice (some ⟨w.heap.size + 1 + 1, 0, none⟩) n n)).setCell ⟨w.heap.size, 1, none⟩ (.slice (some ⟨w.heap.size + 1, 0, none⟩) n n)) :=
      (Tn.set _ _ _ (Nat.le_refl _) (Nat.lt_succ_self _)).trans (Tn.set _ _ _ (Nat.le_refl _) (Nat.lt_succ_self _))
    have hB := (hB0.trans (hbF.mono (by omega))).trans (hbL.mono (by omega))
    have hB2 := hB.trans (ht.below (Nat.le_refl _) hB.size)
    have hkF2 := ht.blk hkF (by omega)
    have hkL2 := ht.blk hkL (by omega)
    generalize ((w3.setCell ⟨w.heap.size, 0, none⟩ (.slice (some ⟨w.heap.size + 1 + 1, 0, none⟩) n n)).setCell ⟨w.heap.size, 1, none⟩ (.slice (some ⟨w.heap.size + 1, 0, none⟩) n n)) = w9 at *
    go_wp2
    have hld := run_loadVar_row (P := Try.prog) _ w.heap.size _ 30 _ (0, 0) _ hrow Try.underlying30 rfl (by kernel_rfl)
    refine bodyPost_ret (v := .tuple #[.agg #[.slice (some ⟨w.heap.size + 1 + 1, 0, none⟩) n n, .slice (some ⟨w.heap.size + 1, 0, none⟩) n n], .int .i64 0]) ?_ rfl ⟨w.heap.size + 1 + 1, w.heap.size + 1, rfl, by omega, by omega, by omega, hkL2, hkF2, hB2⟩
    rw [results_cell_tmp rfl]
    simp [asAddr, Result.andThen, hld]
end Go.Proofs.Ytlkhlbieiogahaa
