/- Layer 14: the law's copies of maps and parts. Printed by wip/tools/genplal.py. -/
import Derived.Test.YtdcggnfplfgcnaaPlaK
set_option linter.all false
namespace Go.Proofs.Ytdcggnfplfgcnaa
open Go.RowKit
namespace Pla
open Blo (I64 Dat Sml FitB Opl dat_own ns_get cons_eq cons_ne drop_of)
open Sma (Pc Mp Mr mv runB run_mem)

/-- A copy of parts: a row of the call's own, whose numbers lie where they lay. -/
def CopyAns (w w' : World) (e : Ending) (t : TypeId) (n : Nat) (L : List (Pt × Value)) : Prop := ∃ A c, e = .returned (.slice A n c) ∧ w'.ownsRow w.heap.size t 6 (.slice A n c) n (pvs L) ∧ Ptl w' A n L ∧ Below w.heap.size w w'
section
variable (w : World)
set_option maxRecDepth 100000 in
set_option maxHeartbeats 1000000 in
theorem theirs_ (m : Mp) (A : Option Addr) (k c : Nat) : Calls Try.prog 11 #[mv m A k c] w fun e w' => e = .returned (mv m A k c) ∧ Below w.heap.size w w' := by
  have hb2 : Below w.heap.size w ((w.alloc (.cells #[.int .i64 m.v, .int .i64 m.n, .slice A k c] 24)).alloc (.cells #[.int .i64 m.v, .int .i64 m.n, .slice A k c] 33)) := ((Below.refl w.heap.size w).alloc (Nat.le_refl _) _).alloc (by simp) _
  simp only [mv]
  go_enter Try.func11, Try.ntmps11
  go_wp2
  refine bodyPost_ret (Sma.results_m1 rfl rfl (Blk.new (w.alloc (.cells #[.int .i64 m.v, .int .i64 m.n, .slice A k c] 24)) 33 #[.int .i64 m.v, .int .i64 m.n, .slice A k c] (g := w.heap.size + 1) (by simp))) rfl ?_
  exact ⟨rfl, hb2⟩
set_option maxRecDepth 100000 in
set_option maxHeartbeats 2000000 in
theorem ours_ (A : Option Addr) (n c : Nat) (L : List (Pt × Value)) (h : Ptl w A n L) (hn : n ≤ 1000000) :
    Calls Try.prog 16 #[.slice A n c] w fun e w' => CopyAns w w' e 85 n L := by
  obtain ⟨i0, hi0', hz0, hz1, hz2⟩ := rpt_info
  have Hz := Lib.hid hz2
  have Hl := Lib.hid h.len
  clear hz2
  go_enter Try.func16, Try.ntmps16
  go_wp2_with fail
  go_loopw [3, 8] (fun vv iv wr => ∃ i : Nat, i ≤ n ∧ iv = .int .i64 (i : Int) ∧ wr.ownsRow w.heap.size 85 6 vv i (pvs (L.take i)) ∧ Below w.heap.size w wr) (fun _ iv _ => n - (intOf iv).toNat)
  case atStart => exact ⟨0, Nat.zero_le _, rfl, own_nil _ _ _ _, Below.refl _ _⟩
  case round =>
    obtain ⟨i, hi, rfl, hown, hb⟩ := hrel
    by_cases hlt : i < n
    · have hil : (i : Int) < (n : Int) := by omega
      have hi0 : (0 : Int) ≤ (i : Int) := by omega
      obtain ⟨p, o, x, X, xm, xc, rfl, hx, -, -, -, c0, c1, c2, c3, c4, c5⟩ := (h.below hb).at_ hlt
      have HS := Lib.hid (show pvs (L.take (i + 1)) = pvs (L.take i) ++ pv x (.slice X xm xc) by rw [List.take_add_one, hx]; exact pvs_snoc _ _)
      have hba1 : Below wr.heap.size wr (wr.alloc (pto x (.slice X xm xc) 67)) := (Below.refl _ _).alloc (Nat.le_refl _) _
      have hac := Blk.new wr 67 #[.int .i64 x.pc, .int .i64 x.nd, .int .i64 x.op.kind, .int .i64 x.op.off, .int .i64 x.op.len, .slice X xm xc] rfl
      have hba : Below wr.heap.size wr ((wr.alloc (pto x (.slice X xm xc) 67)).alloc (pto x (.slice X xm xc) 85)) := hba1.alloc (by simp) _
      have hrd := rd_pt (w := (wr.alloc (pto x (.slice X xm xc) 67))) (q := x) (d := .slice X xm xc) (t := 85) (g := wr.heap.size + 1) (by simp)
      have howna := own_keep hown hba
      have hB := below_step hb hba (Nat.le_refl _)
      have hmx : i + 1 ≤ maxLen := by unfold maxLen; omega
      have hby : (i + 1) * 64 ≤ 140737488355328 := by omega
      have hbs := hB.size
      clear hx hba1 hba hown hb
      go_wp2_with (first
        | (at_builtin
           go_must (refine wpList_app _ rfl (.tmp 12) (.tmp 20) _ rfl w.heap.size 85 i0 _ 6 64 Try.underlying35 hi0' hz0 hz1 Hz.out rfl (Nat.zero_lt_succ 5) _ i _ rfl howna (some ⟨wr.heap.size + 1, 0, none⟩) 1 1 (pv x (.slice X xm xc)) rfl (fun h => some_ne h) hrd (pv_one _ _ _ _) hmx hby hbs ?_)
           intro v3 w3 hown3 hg3 hat3
           rw [← HS.out] at hown3
           have hB3 : Below w.heap.size w w3 := hB.grown hg3 hbs (fun j hj => (howna.lt j hj).1)
           clear hg3 hat3 howna)
        | fail)
      go_roundw
      case rel => exact ⟨i + 1, by omega, by go_num, hown3, hB3⟩
      case measure => simp [intOf]; omega
    · have hik : i = n := by omega
      subst hik
      have hin : ¬ (i : Int) < (i : Int) := by omega
      rw [List.take_of_length_le (by rw [← Hl.out]; exact Nat.le_refl _)] at hown
      obtain ⟨A', c', rfl, hc1, hc2, hc3⟩ := own_form hown
      go_wp2
      go_ret
      exact ⟨A', c', rfl, hown, ⟨rd_own hown, fun p hp => (h.each p hp).below hb⟩, hb⟩
set_option maxRecDepth 100000 in
set_option maxHeartbeats 2000000 in
theorem back_ (A : Option Addr) (n c : Nat) (L : List (Pt × Value)) (h : Ptl w A n L) (hn : n ≤ 1000000) :
    Calls Try.prog 23 #[.slice A n c] w fun e w' => CopyAns w w' e 67 n L := by
  obtain ⟨i0, hi0', hz0, hz1, hz2⟩ := pt_info
  have Hz := Lib.hid hz2
  have Hl := Lib.hid h.len
  clear hz2
  go_enter Try.func23, Try.ntmps23
  go_wp2_with fail
  go_loopw [3, 8] (fun vv iv wr => ∃ i : Nat, i ≤ n ∧ iv = .int .i64 (i : Int) ∧ wr.ownsRow w.heap.size 67 6 vv i (pvs (L.take i)) ∧ Below w.heap.size w wr) (fun _ iv _ => n - (intOf iv).toNat)
  case atStart => exact ⟨0, Nat.zero_le _, rfl, own_nil _ _ _ _, Below.refl _ _⟩
  case round =>
    obtain ⟨i, hi, rfl, hown, hb⟩ := hrel
    by_cases hlt : i < n
    · have hil : (i : Int) < (n : Int) := by omega
      have hi0 : (0 : Int) ≤ (i : Int) := by omega
      obtain ⟨p, o, x, X, xm, xc, rfl, hx, -, -, -, c0, c1, c2, c3, c4, c5⟩ := (h.below hb).at_ hlt
      have HS := Lib.hid (show pvs (L.take (i + 1)) = pvs (L.take i) ++ pv x (.slice X xm xc) by rw [List.take_add_one, hx]; exact pvs_snoc _ _)
      have hba1 : Below wr.heap.size wr (wr.alloc (pto x (.slice X xm xc) 85)) := (Below.refl _ _).alloc (Nat.le_refl _) _
      have hac := Blk.new wr 85 #[.int .i64 x.pc, .int .i64 x.nd, .int .i64 x.op.kind, .int .i64 x.op.off, .int .i64 x.op.len, .slice X xm xc] rfl
      have hba : Below wr.heap.size wr ((wr.alloc (pto x (.slice X xm xc) 85)).alloc (pto x (.slice X xm xc) 67)) := hba1.alloc (by simp) _
      have hrd := rd_pt (w := (wr.alloc (pto x (.slice X xm xc) 85))) (q := x) (d := .slice X xm xc) (t := 67) (g := wr.heap.size + 1) (by simp)
      have howna := own_keep hown hba
      have hB := below_step hb hba (Nat.le_refl _)
      have hmx : i + 1 ≤ maxLen := by unfold maxLen; omega
      have hby : (i + 1) * 64 ≤ 140737488355328 := by omega
      have hbs := hB.size
      clear hx hba1 hba hown hb
      go_wp2_with (first
        | (at_builtin
           go_must (refine wpList_app _ rfl (.tmp 12) (.tmp 20) _ rfl w.heap.size 67 i0 _ 6 64 Try.underlying29 hi0' hz0 hz1 Hz.out rfl (Nat.zero_lt_succ 5) _ i _ rfl howna (some ⟨wr.heap.size + 1, 0, none⟩) 1 1 (pv x (.slice X xm xc)) rfl (fun h => some_ne h) hrd (pv_one _ _ _ _) hmx hby hbs ?_)
           intro v3 w3 hown3 hg3 hat3
           rw [← HS.out] at hown3
           have hB3 : Below w.heap.size w w3 := hB.grown hg3 hbs (fun j hj => (howna.lt j hj).1)
           clear hg3 hat3 howna)
        | fail)
      go_roundw
      case rel => exact ⟨i + 1, by omega, by go_num, hown3, hB3⟩
      case measure => simp [intOf]; omega
    · have hik : i = n := by omega
      subst hik
      have hin : ¬ (i : Int) < (i : Int) := by omega
      rw [List.take_of_length_le (by rw [← Hl.out]; exact Nat.le_refl _)] at hown
      obtain ⟨A', c', rfl, hc1, hc2, hc3⟩ := own_form hown
      go_wp2
      go_ret
      exact ⟨A', c', rfl, hown, ⟨rd_own hown, fun p hp => (h.each p hp).below hb⟩, hb⟩
end
end Pla
end Go.Proofs.Ytdcggnfplfgcnaa
