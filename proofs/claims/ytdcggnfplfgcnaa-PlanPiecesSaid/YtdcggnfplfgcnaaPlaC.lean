/- Layer 14: plan's cut, once for each closure. Printed by wip/tools/genpla.py. -/
import Derived.Test.YtdcggnfplfgcnaaPlaB
import Derived.Deep.RegionHeld3
set_option linter.all false
namespace Go.Proofs.Ytdcggnfplfgcnaa
open Go.RowKit
namespace Pla
open Blo (I64 Dat Sml FitB dat_own)
open Sma (Pc Mp Mr mv runB run_mem)

/-- What is answered as parts: a row of the call's own. -/
def PartsAns (w w' : World) (e : Ending) (t : TypeId) (l : List Pt) : Prop := ∃ A n c L, e = .returned (.slice A n c) ∧ Pl w' w.heap.size t (.slice A n c) n L ∧ L.map Prod.fst = l ∧ Below w.heap.size w w'
abbrev pto (q : Pt) (d : Value) (t : TypeId) : Obj := .cells #[.int .i64 q.pc, .int .i64 q.nd, .int .i64 q.op.kind, .int .i64 q.op.off, .int .i64 q.op.len, d] t
theorem below_undrew {B : Nat} {a w : World} (h : Below B a.drew w) : Below B a w := ⟨h.os, h.tape, h.output, h.size, h.block⟩
theorem some_ne {α : Type} {a : α} {P : Prop} (h : some a = none) : P := by cases h
theorem rd_pt {w : World} {q : Pt} {d : Value} {t : TypeId} {g : Nat} (hg : g = w.heap.size) : Rd (w.alloc (pto q d t)) (some ⟨g, 0, none⟩) 6 1 (pv q d) := by
  subst hg
  have := Rd.new w #[.int .i64 q.pc, .int .i64 q.nd, .int .i64 q.op.kind, .int .i64 q.op.off, .int .i64 q.op.len, d] t (0, 0) (sz := 6) (n := 1) (by simp)
  simpa using this
section
variable (w : World)
set_option maxRecDepth 100000 in
set_option maxHeartbeats 2000000 in
theorem cut_ops (m : Mp) (A : Option Addr) (k c : Nat) (h : Mr w m A k c) (hr : m.right = true) (o : BOp) (n : Int) (h0 : 0 ≤ o.off) (h1 : 1 ≤ n) (h2 : o.off + n ≤ 1024) (bo bf : Nat)
    (hf : ∀ (w' : World) (f t : Int), Below w.heap.size w w' → o.off ≤ f → t ≤ o.off + n → f < t → Calls Try.prog 37 #[.int .i64 f, .int .i64 t, .pointer (some ⟨bo, 0, none⟩), .pointer (some ⟨bf, 0, none⟩)] w' fun e w'' => CutAns w' w'' e (cutO o f t)) :
    Calls Try.prog 36 #[mv m A k c, .int .i64 o.off, .int .i64 n, .func (.func 37) #[] #[.pointer (some ⟨bo, 0, none⟩), .pointer (some ⟨bf, 0, none⟩)]] w fun e w' => PartsAns w w' e 67 (partsL o n 0 m.ps) := by
  obtain ⟨i0, hi0', hz0, hz1, hz2⟩ := pt_info
  have Hz := Lib.hid hz2
  clear hz2
  obtain ⟨hvv, hnn, hk16, hrun⟩ := Sma.right_is hr
  have hmem := Lib.hid (fun p hp => run_mem hrun p hp)
  have hlen := h.len
  have Hlen := Lib.hid hlen
  have hk : k ≤ 16 := by omega
  have hbx := (Below.refl w.heap.size w).alloc (Nat.le_refl _) (mo m A k c)
  have hp1 := h.ps
  have hwx : IntKind.i64.wrap (o.off + n) = o.off + n := by rw [IntKind.wrap_i64]; omega
  have hsz1 : w.heap.size ≤ (w.alloc (mo m A k c)).heap.size := by simp
  have hw1L : (w.alloc (mo m A k c)).heap.size = w.heap.size + 1 := by simp
  generalize hON : o.off + n = M at *
  clear h hlen hk16 hrun
  go_enter Try.func36, Try.ntmps36
  go_wp2_with fail
  generalize (w.alloc (mo m A k c)) = w1 at *
  go_loopw [9, 17] (fun vv iv wr => ∃ (i N : Nat) (L : List (Pt × Value)), i ≤ k ∧ N ≤ i ∧ iv = .int .i64 (i : Int) ∧ Pl wr w.heap.size 67 vv N L ∧ L.map Prod.fst ++ partsL o n i (m.ps.drop i) = partsL o n 0 m.ps ∧ Below w.heap.size w wr) (fun _ iv _ => k - (intOf iv).toNat)
  case atStart => exact ⟨0, 0, [], Nat.zero_le _, Nat.le_refl _, rfl, Pl.nil _ _ _, rfl, hbx⟩
  case round =>
    obtain ⟨i, N, L, hi, hN, rfl, hPl, hL, hb⟩ := hrel
    by_cases hlt : i < k
    · have hil : (i : Int) < (k : Int) := by omega
      have hi0 : (0 : Int) ≤ (i : Int) := by omega
      obtain ⟨b, q, rfl, p, hx, fp, c0, c1, c2⟩ := (hp1.below hb).at_ hlt
      have hpm := hmem.out p (List.mem_of_getElem? hx)
      rw [Sma.drop_of hx] at hL
      have hac := Blk.new wr 72 #[.int .i64 p.fr, .int .i64 p.en, .int .i64 p.nd] rfl
      have hba : Below wr.heap.size wr (wr.alloc (Sma.po p)) := (Below.refl _ _).alloc (Nat.le_refl _) _
      have hB := below_step hb hba (Nat.le_refl _)
      have hP1 := hPl.keep hba
      obtain ⟨lo, hlo⟩ : ∃ lo, max p.fr o.off = lo := ⟨_, rfl⟩
      obtain ⟨hi2, hhi⟩ : ∃ hi2, min p.en M = hi2 := ⟨_, rfl⟩
      by_cases hlh : lo < hi2
      · rw [parts_yes hlo (by rw [hON]; exact hhi) hlh] at hL
        have HL := Lib.hid hL
        have e1 : o.off ≤ lo := by omega
        have e2 : hi2 ≤ M := by omega
        have d2 := hac.cell (j := 2) (u := .int .i64 p.nd) rfl
        have hbs := hB.size
        have hmx : N + 1 ≤ maxLen := by unfold maxLen; omega
        have hby : (N + 1) * 64 ≤ 140737488355328 := by omega
        have hrlt := fun g hg => Nat.ne_of_lt (hPl.row.lt g hg).2
        clear hL hx hb hPl hmem
        go_wp2_with fail
        go_region
        go_wp2_with fail
        go_region_held3 (fun w' => w'.cell? ⟨wr.heap.size, 2, none⟩ = some (.int .i64 p.nd)) (first | exact d2 | exact k2 | exact k3 | go_keep)
          (first
            | (go_at_call 37
               refine (hf _ lo hi2 hB.drew.drew e1 e2 hlh).mono ?_
               rintro e w2 ⟨d, rfl, hO, hb2⟩
               have hb2' : Below (wr.alloc (Sma.po p)).heap.size (wr.alloc (Sma.po p)) w2 := below_undrew (below_undrew hb2)
               have hO' : w2.ownsRow w.heap.size 64 1 d (cutO o lo hi2).data.length (nvs (cutO o lo hi2).data) := hO.mono hbs
               have k2 := (hac.keep hb2').cell (j := 2) (u := .int .i64 p.nd) rfl
               have hP2 := hP1.keep hb2'
               have hB2 := below_step hB hb2' (Nat.le_refl _)
               obtain ⟨X, c', rfl, -, -, -⟩ := own_form hO'
               have hrd := rd_pt (w := w2) (q := ⟨(i : Int), p.nd, cutO o lo hi2⟩) (d := .slice X (cutO o lo hi2).data.length c') (t := 67) rfl
               have hba2 : Below w2.heap.size w2 (w2.alloc (pto ⟨(i : Int), p.nd, cutO o lo hi2⟩ (.slice X (cutO o lo hi2).data.length c') 67)) := (Below.refl _ _).alloc (Nat.le_refl _) _
               have hP3 := hP2.keep hba2
               have hO3 := own_keep hO' hba2
               have hB3 := below_step hB2 hba2 (Nat.le_refl _))
            | (refine step_app _ rfl (.tmp 35) (.tmp 44) _ rfl w.heap.size 67 i0 _ 6 64 Try.underlying29 hi0' hz0 hz1 Hz.out rfl (Nat.zero_lt_succ 5) _ N _ rfl hP3.row (some ⟨w2.heap.size, 0, none⟩) 1 1 (pv ⟨(i : Int), p.nd, cutO o lo hi2⟩ (.slice X (cutO o lo hi2).data.length c')) rfl (fun h => some_ne h) hrd (pv_one _ _ _ _) hmx hby hB3.size ?_
               intro v5 w5 hown5 hg5 hat5
               have hP5 := pl_push (by decide) hP3 hg5 hown5 hO3
               have hB5 : Below w.heap.size w w5 := hB3.grown hg5 hB3.size (fun j hj => (hP3.row.lt j hj).1)
               have k3 := ((((hac.keep hb2').keep hba2)).grown hg5 (fun e => hrlt _ e.symm rfl)).cell (j := 2) (u := .int .i64 p.nd) rfl))
        clear hown5 hg5 hat5 hP3 hP2 hO3 hO' hO hrd
        go_wp2
        go_roundw
        case rel => exact ⟨i + 1, N + 1, L ++ [(⟨(i : Int), p.nd, cutO o lo hi2⟩, .slice X (cutO o lo hi2).data.length c')], by omega, by omega, by go_num, hP5, by rw [List.map_append, List.append_assoc]; exact HL.out, hB5⟩
        case measure => simp [intOf]; omega
      · rw [parts_no hlo (by rw [hON]; exact hhi) hlh] at hL
        have HL := Lib.hid hL
        clear hL hx hb hPl
        go_wp2_with fail
        go_region
        go_wp2
        go_roundw
        case rel => exact ⟨i + 1, N, L, by omega, by omega, by go_num, hP1.keep (Below.refl _ _).drew, HL.out, hB.drew⟩
        case measure => simp [intOf]; omega
    · have hik : i = k := by omega
      subst hik
      have hin : ¬ (i : Int) < (i : Int) := by omega
      rw [List.drop_of_length_le (by rw [← Hlen.out]; exact Nat.le_refl _), parts_nil, List.append_nil] at hL
      have HL := Lib.hid hL
      clear hL
      obtain ⟨A', c', rfl, -, -, -⟩ := own_form hPl.row
      go_wp2
      go_ret
      exact ⟨A', N, c', L, rfl, hPl, HL.out, hb⟩
set_option maxRecDepth 100000 in
set_option maxHeartbeats 2000000 in
theorem cut_reads (m : Mp) (A : Option Addr) (k c : Nat) (h : Mr w m A k c) (hr : m.right = true) (o : BOp) (n : Int) (h0 : 0 ≤ o.off) (h1 : 1 ≤ n) (h2 : o.off + n ≤ 1024) 
    (hf : ∀ (w' : World) (f t : Int), Below w.heap.size w w' → o.off ≤ f → t ≤ o.off + n → f < t → Calls Try.prog 42 #[.int .i64 f, .int .i64 t] w' fun e w'' => CutAns w' w'' e (cutO o f t)) :
    Calls Try.prog 36 #[mv m A k c, .int .i64 o.off, .int .i64 n, .func (.func 42) #[] #[]] w fun e w' => PartsAns w w' e 67 (partsL o n 0 m.ps) := by
  obtain ⟨i0, hi0', hz0, hz1, hz2⟩ := pt_info
  have Hz := Lib.hid hz2
  clear hz2
  obtain ⟨hvv, hnn, hk16, hrun⟩ := Sma.right_is hr
  have hmem := Lib.hid (fun p hp => run_mem hrun p hp)
  have hlen := h.len
  have Hlen := Lib.hid hlen
  have hk : k ≤ 16 := by omega
  have hbx := (Below.refl w.heap.size w).alloc (Nat.le_refl _) (mo m A k c)
  have hp1 := h.ps
  have hwx : IntKind.i64.wrap (o.off + n) = o.off + n := by rw [IntKind.wrap_i64]; omega
  have hsz1 : w.heap.size ≤ (w.alloc (mo m A k c)).heap.size := by simp
  have hw1L : (w.alloc (mo m A k c)).heap.size = w.heap.size + 1 := by simp
  generalize hON : o.off + n = M at *
  clear h hlen hk16 hrun
  go_enter Try.func36, Try.ntmps36
  go_wp2_with fail
  generalize (w.alloc (mo m A k c)) = w1 at *
  go_loopw [9, 17] (fun vv iv wr => ∃ (i N : Nat) (L : List (Pt × Value)), i ≤ k ∧ N ≤ i ∧ iv = .int .i64 (i : Int) ∧ Pl wr w.heap.size 67 vv N L ∧ L.map Prod.fst ++ partsL o n i (m.ps.drop i) = partsL o n 0 m.ps ∧ Below w.heap.size w wr) (fun _ iv _ => k - (intOf iv).toNat)
  case atStart => exact ⟨0, 0, [], Nat.zero_le _, Nat.le_refl _, rfl, Pl.nil _ _ _, rfl, hbx⟩
  case round =>
    obtain ⟨i, N, L, hi, hN, rfl, hPl, hL, hb⟩ := hrel
    by_cases hlt : i < k
    · have hil : (i : Int) < (k : Int) := by omega
      have hi0 : (0 : Int) ≤ (i : Int) := by omega
      obtain ⟨b, q, rfl, p, hx, fp, c0, c1, c2⟩ := (hp1.below hb).at_ hlt
      have hpm := hmem.out p (List.mem_of_getElem? hx)
      rw [Sma.drop_of hx] at hL
      have hac := Blk.new wr 72 #[.int .i64 p.fr, .int .i64 p.en, .int .i64 p.nd] rfl
      have hba : Below wr.heap.size wr (wr.alloc (Sma.po p)) := (Below.refl _ _).alloc (Nat.le_refl _) _
      have hB := below_step hb hba (Nat.le_refl _)
      have hP1 := hPl.keep hba
      obtain ⟨lo, hlo⟩ : ∃ lo, max p.fr o.off = lo := ⟨_, rfl⟩
      obtain ⟨hi2, hhi⟩ : ∃ hi2, min p.en M = hi2 := ⟨_, rfl⟩
      by_cases hlh : lo < hi2
      · rw [parts_yes hlo (by rw [hON]; exact hhi) hlh] at hL
        have HL := Lib.hid hL
        have e1 : o.off ≤ lo := by omega
        have e2 : hi2 ≤ M := by omega
        have d2 := hac.cell (j := 2) (u := .int .i64 p.nd) rfl
        have hbs := hB.size
        have hmx : N + 1 ≤ maxLen := by unfold maxLen; omega
        have hby : (N + 1) * 64 ≤ 140737488355328 := by omega
        have hrlt := fun g hg => Nat.ne_of_lt (hPl.row.lt g hg).2
        clear hL hx hb hPl hmem
        go_wp2_with fail
        go_region
        go_wp2_with fail
        go_region_held3 (fun w' => w'.cell? ⟨wr.heap.size, 2, none⟩ = some (.int .i64 p.nd)) (first | exact d2 | exact k2 | exact k3 | go_keep)
          (first
            | (go_at_call 42
               refine (hf _ lo hi2 hB.drew.drew e1 e2 hlh).mono ?_
               rintro e w2 ⟨d, rfl, hO, hb2⟩
               have hb2' : Below (wr.alloc (Sma.po p)).heap.size (wr.alloc (Sma.po p)) w2 := below_undrew (below_undrew hb2)
               have hO' : w2.ownsRow w.heap.size 64 1 d (cutO o lo hi2).data.length (nvs (cutO o lo hi2).data) := hO.mono hbs
               have k2 := (hac.keep hb2').cell (j := 2) (u := .int .i64 p.nd) rfl
               have hP2 := hP1.keep hb2'
               have hB2 := below_step hB hb2' (Nat.le_refl _)
               obtain ⟨X, c', rfl, -, -, -⟩ := own_form hO'
               have hrd := rd_pt (w := w2) (q := ⟨(i : Int), p.nd, cutO o lo hi2⟩) (d := .slice X (cutO o lo hi2).data.length c') (t := 67) rfl
               have hba2 : Below w2.heap.size w2 (w2.alloc (pto ⟨(i : Int), p.nd, cutO o lo hi2⟩ (.slice X (cutO o lo hi2).data.length c') 67)) := (Below.refl _ _).alloc (Nat.le_refl _) _
               have hP3 := hP2.keep hba2
               have hO3 := own_keep hO' hba2
               have hB3 := below_step hB2 hba2 (Nat.le_refl _))
            | (refine step_app _ rfl (.tmp 35) (.tmp 44) _ rfl w.heap.size 67 i0 _ 6 64 Try.underlying29 hi0' hz0 hz1 Hz.out rfl (Nat.zero_lt_succ 5) _ N _ rfl hP3.row (some ⟨w2.heap.size, 0, none⟩) 1 1 (pv ⟨(i : Int), p.nd, cutO o lo hi2⟩ (.slice X (cutO o lo hi2).data.length c')) rfl (fun h => some_ne h) hrd (pv_one _ _ _ _) hmx hby hB3.size ?_
               intro v5 w5 hown5 hg5 hat5
               have hP5 := pl_push (by decide) hP3 hg5 hown5 hO3
               have hB5 : Below w.heap.size w w5 := hB3.grown hg5 hB3.size (fun j hj => (hP3.row.lt j hj).1)
               have k3 := ((((hac.keep hb2').keep hba2)).grown hg5 (fun e => hrlt _ e.symm rfl)).cell (j := 2) (u := .int .i64 p.nd) rfl))
        clear hown5 hg5 hat5 hP3 hP2 hO3 hO' hO hrd
        go_wp2
        go_roundw
        case rel => exact ⟨i + 1, N + 1, L ++ [(⟨(i : Int), p.nd, cutO o lo hi2⟩, .slice X (cutO o lo hi2).data.length c')], by omega, by omega, by go_num, hP5, by rw [List.map_append, List.append_assoc]; exact HL.out, hB5⟩
        case measure => simp [intOf]; omega
      · rw [parts_no hlo (by rw [hON]; exact hhi) hlh] at hL
        have HL := Lib.hid hL
        clear hL hx hb hPl
        go_wp2_with fail
        go_region
        go_wp2
        go_roundw
        case rel => exact ⟨i + 1, N, L, by omega, by omega, by go_num, hP1.keep (Below.refl _ _).drew, HL.out, hB.drew⟩
        case measure => simp [intOf]; omega
    · have hik : i = k := by omega
      subst hik
      have hin : ¬ (i : Int) < (i : Int) := by omega
      rw [List.drop_of_length_le (by rw [← Hlen.out]; exact Nat.le_refl _), parts_nil, List.append_nil] at hL
      have HL := Lib.hid hL
      clear hL
      obtain ⟨A', c', rfl, -, -, -⟩ := own_form hPl.row
      go_wp2
      go_ret
      exact ⟨A', N, c', L, rfl, hPl, HL.out, hb⟩
end
end Pla
end Go.Proofs.Ytdcggnfplfgcnaa
