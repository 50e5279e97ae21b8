/- Layer 6: which lists are lists, and which are in their form: the document's List and Right. -/
import Derived.Test.YtfdfjnepfgabaaaEmpR
import Derived.Test.YtfdfjnepfgabaaaEmpB
set_option linter.all false
namespace Go.Proofs.Ytfdfjnepfgabaaa
open Go.RowKit

/-- Where the extent ahead of k ends. -/
structure Stop (l : List Ext) (k : Nat) (lo : Int) : Prop where
  low : 0 ≤ lo
  high : lo ≤ 1024
  first : k = 0 → lo = 0
  ahead : ∀ m, k = m + 1 → ∃ y, l[m]? = some y ∧ y.may = true ∧ lo = y.off + y.len

section
variable (w : World)
set_option maxRecDepth 100000 in
set_option maxHeartbeats 4000000 in
theorem rlist_ (A : Option Addr) (n c : Nat) (l : List Ext) (h : Es w A n l) (hn : n ≤ 9223372036854775807) :
    Calls Try.prog 39 #[.slice A n c] w fun e w' => e = .returned (.bool (listB l)) ∧ Below w.heap.size w w' := by
  have Hl := Lib.hid h.len
  go_enter Try.func39, Try.ntmps39
  go_wp2_with fail
  go_loopw [3] (fun iv wr => ∃ (k : Nat) (lo : Int), k ≤ n ∧ iv = .int .i64 (k : Int) ∧ Stop l k lo ∧ listFrom lo (l.drop k) = listB l ∧ Below w.heap.size w wr) (fun iv _ => n - (intOf iv).toNat)
  case atStart => exact ⟨0, 0, Nat.zero_le _, rfl, ⟨by omega, by omega, fun _ => rfl, fun m hm => by omega⟩, rfl, Below.refl _ _⟩
  case round =>
    obtain ⟨k, lo, hk, rfl, hst, hL, hb⟩ := hrel
    by_cases hlt : k < n
    · have hil : (k : Int) < (n : Int) := by omega
      have hk0 : (0 : Int) ≤ (k : Int) := by omega
      obtain ⟨b, o, rfl, x, hx, fx, c0, c1, c2, c3⟩ := (h.below hb).at_ hlt
      rw [drop_of hx] at hL
      cases hm : x.may with
      | false =>
        have HB := Lib.hid (list_nomay hL hm)
        clear hL h
        go_wp2_with fail
        refine wp_region_noPanic ?_
        refine wp_region_held_drew (S := (fun w' => w'.cell? ⟨b, o + k * 4, none⟩ = some (.int .i64 x.off) ∧ w'.cell? ⟨b, o + k * 4 + 1, none⟩ = some (.int .i64 x.len) ∧ w'.cell? ⟨b, o + k * 4 + 2, none⟩ = some (.int .i64 x.phys) ∧ w'.cell? ⟨b, o + k * 4 + 3, none⟩ = some (.int .i64 x.birth))) (by kernel_rfl) ⟨c0, c1, c2, c3⟩ (fun _ => ?_)
        refine wpAnyH_take (i := 0) (oi := _) (v := ?_) rfl (by kernel_rfl) (by kernel_rfl) (by kernel_rfl) (fun _ _ _ h => h) (Or.inl ⟨by kernel_rfl, ?_⟩) ⟨c0, c1, c2, c3⟩ ?_
        rotate_left
        · (rintro w ⟨s0, s1, s2, s3⟩; go_simp; (first | done | rfl))
        try simp only [Act.put, List.getElem_toArray, List.getElem_cons_zero, List.getElem_cons_succ, List.setIfInBounds_toArray, List.set_cons_zero, List.set_cons_succ]
        refine wpAnyH_take (i := 1) (oi := _) (v := ?_) rfl (by kernel_rfl) (by kernel_rfl) (by kernel_rfl) (fun _ _ _ h => h) (Or.inl ⟨by kernel_rfl, ?_⟩) ⟨c0, c1, c2, c3⟩ ?_
        rotate_left
        · (rintro w ⟨s0, s1, s2, s3⟩; go_simp; (first | done | rfl))
        try simp only [Act.put, List.getElem_toArray, List.getElem_cons_zero, List.getElem_cons_succ, List.setIfInBounds_toArray, List.set_cons_zero, List.set_cons_succ]
        refine wpAnyH_take (i := 2) (oi := _) (v := ?_) rfl (by kernel_rfl) (by kernel_rfl) (by kernel_rfl) (fun _ _ _ h => h) (Or.inl ⟨by kernel_rfl, ?_⟩) ⟨c0, c1, c2, c3⟩ ?_
        rotate_left
        · (rintro w ⟨s0, s1, s2, s3⟩; go_simp; (first | done | rfl))
        try simp only [Act.put, List.getElem_toArray, List.getElem_cons_zero, List.getElem_cons_succ, List.setIfInBounds_toArray, List.set_cons_zero, List.set_cons_succ]
        refine wpAnyH_take (i := 3) (oi := _) (v := ?_) rfl (by kernel_rfl) (by kernel_rfl) (by kernel_rfl) (fun _ _ _ h => h) (Or.inl ⟨by kernel_rfl, ?_⟩) ⟨c0, c1, c2, c3⟩ ?_
        rotate_left
        · (rintro w ⟨s0, s1, s2, s3⟩; go_simp; (first | done | rfl))
        try simp only [Act.put, List.getElem_toArray, List.getElem_cons_zero, List.getElem_cons_succ, List.setIfInBounds_toArray, List.set_cons_zero, List.set_cons_succ]
        refine wpAnyH_ready (rs := [4]) (by kernel_rfl) (by simp) (AllReadyH.cons (o := _) rfl (fun K hK => ?_) AllReadyH.nil)
        go_simp
        go_at_call 41
        refine (rmay_ _ x fx).mono ?_
        rw [hm]
        rintro e w2 ⟨rfl, hb2⟩
        go_wp2_with fail
        refine hK.out _ _ ⟨(hb2.cell (cell_lt c0)).trans c0, (hb2.cell (cell_lt c1)).trans c1, (hb2.cell (cell_lt c2)).trans c2, (hb2.cell (cell_lt c3)).trans c3⟩ (fun _ => ?_)
        clear hK K
        try simp only [Act.put, List.getElem_toArray, List.getElem_cons_zero, List.getElem_cons_succ, List.setIfInBounds_toArray, List.set_cons_zero, List.set_cons_succ]
        refine wpAnyH_take (i := 5) (oi := _) (v := ?_) rfl (by kernel_rfl) (by kernel_rfl) (by kernel_rfl) (fun _ _ _ h => h) (Or.inl ⟨by kernel_rfl, ?_⟩) ⟨(hb2.cell (cell_lt c0)).trans c0, (hb2.cell (cell_lt c1)).trans c1, (hb2.cell (cell_lt c2)).trans c2, (hb2.cell (cell_lt c3)).trans c3⟩ ?_
        rotate_left
        · (rintro w ⟨s0, s1, s2, s3⟩; go_simp; (first | done | rfl))
        try simp only [Act.put, List.getElem_toArray, List.getElem_cons_zero, List.getElem_cons_succ, List.setIfInBounds_toArray, List.set_cons_zero, List.set_cons_succ]
        refine wpAnyH_take (i := 6) (oi := _) (v := ?_) rfl (by kernel_rfl) (by kernel_rfl) (by kernel_rfl) (fun _ _ _ h => h) (Or.inl ⟨by kernel_rfl, ?_⟩) ⟨(hb2.cell (cell_lt c0)).trans c0, (hb2.cell (cell_lt c1)).trans c1, (hb2.cell (cell_lt c2)).trans c2, (hb2.cell (cell_lt c3)).trans c3⟩ ?_
        rotate_left
        · (rintro w ⟨s0, s1, s2, s3⟩; go_simp; (first | done | rfl))
        try simp only [Act.put, List.getElem_toArray, List.getElem_cons_zero, List.getElem_cons_succ, List.setIfInBounds_toArray, List.set_cons_zero, List.set_cons_succ]
        refine wpAnyH_take (i := 7) (oi := _) (v := undef) rfl (by kernel_rfl) (by kernel_rfl) (by kernel_rfl) (fun _ _ _ h => h) (Or.inr ⟨by kernel_rfl, rfl⟩) ⟨(hb2.cell (cell_lt c0)).trans c0, (hb2.cell (cell_lt c1)).trans c1, (hb2.cell (cell_lt c2)).trans c2, (hb2.cell (cell_lt c3)).trans c3⟩ ?_
        try simp only [Act.put, List.getElem_toArray, List.getElem_cons_zero, List.getElem_cons_succ, List.setIfInBounds_toArray, List.set_cons_zero, List.set_cons_succ]
        refine wpAnyH_take (i := 8) (oi := _) (v := undef) rfl (by kernel_rfl) (by kernel_rfl) (by kernel_rfl) (fun _ _ _ h => h) (Or.inr ⟨by kernel_rfl, rfl⟩) ⟨(hb2.cell (cell_lt c0)).trans c0, (hb2.cell (cell_lt c1)).trans c1, (hb2.cell (cell_lt c2)).trans c2, (hb2.cell (cell_lt c3)).trans c3⟩ ?_
        try simp only [Act.put, List.getElem_toArray, List.getElem_cons_zero, List.getElem_cons_succ, List.setIfInBounds_toArray, List.set_cons_zero, List.set_cons_succ]
        refine wpAnyH_take (i := 9) (oi := _) (v := undef) rfl (by kernel_rfl) (by kernel_rfl) (by kernel_rfl) (fun _ _ _ h => h) (Or.inr ⟨by kernel_rfl, rfl⟩) ⟨(hb2.cell (cell_lt c0)).trans c0, (hb2.cell (cell_lt c1)).trans c1, (hb2.cell (cell_lt c2)).trans c2, (hb2.cell (cell_lt c3)).trans c3⟩ ?_
        try simp only [Act.put, List.getElem_toArray, List.getElem_cons_zero, List.getElem_cons_succ, List.setIfInBounds_toArray, List.set_cons_zero, List.set_cons_succ]
        refine wpAnyH_take (i := 10) (oi := _) (v := undef) rfl (by kernel_rfl) (by kernel_rfl) (by kernel_rfl) (fun _ _ _ h => h) (Or.inr ⟨by kernel_rfl, rfl⟩) ⟨(hb2.cell (cell_lt c0)).trans c0, (hb2.cell (cell_lt c1)).trans c1, (hb2.cell (cell_lt c2)).trans c2, (hb2.cell (cell_lt c3)).trans c3⟩ ?_
        try simp only [Act.put, List.getElem_toArray, List.getElem_cons_zero, List.getElem_cons_succ, List.setIfInBounds_toArray, List.set_cons_zero, List.set_cons_succ]
        refine wpAnyH_take (i := 11) (oi := _) (v := undef) rfl (by kernel_rfl) (by kernel_rfl) (by kernel_rfl) (fun _ _ _ h => h) (Or.inr ⟨by kernel_rfl, rfl⟩) ⟨(hb2.cell (cell_lt c0)).trans c0, (hb2.cell (cell_lt c1)).trans c1, (hb2.cell (cell_lt c2)).trans c2, (hb2.cell (cell_lt c3)).trans c3⟩ ?_
        try simp only [Act.put, List.getElem_toArray, List.getElem_cons_zero, List.getElem_cons_succ, List.setIfInBounds_toArray, List.set_cons_zero, List.set_cons_succ]
        refine wpAnyH_take (i := 12) (oi := _) (v := undef) rfl (by kernel_rfl) (by kernel_rfl) (by kernel_rfl) (fun _ _ _ h => h) (Or.inr ⟨by kernel_rfl, rfl⟩) ⟨(hb2.cell (cell_lt c0)).trans c0, (hb2.cell (cell_lt c1)).trans c1, (hb2.cell (cell_lt c2)).trans c2, (hb2.cell (cell_lt c3)).trans c3⟩ ?_
        try simp only [Act.put, List.getElem_toArray, List.getElem_cons_zero, List.getElem_cons_succ, List.setIfInBounds_toArray, List.set_cons_zero, List.set_cons_succ]
        refine wpAnyH_take (i := 13) (oi := _) (v := undef) rfl (by kernel_rfl) (by kernel_rfl) (by kernel_rfl) (fun _ _ _ h => h) (Or.inr ⟨by kernel_rfl, rfl⟩) ⟨(hb2.cell (cell_lt c0)).trans c0, (hb2.cell (cell_lt c1)).trans c1, (hb2.cell (cell_lt c2)).trans c2, (hb2.cell (cell_lt c3)).trans c3⟩ ?_
        try simp only [Act.put, List.getElem_toArray, List.getElem_cons_zero, List.getElem_cons_succ, List.setIfInBounds_toArray, List.set_cons_zero, List.set_cons_succ]
        refine wpAnyH_take (i := 14) (oi := _) (v := undef) rfl (by kernel_rfl) (by kernel_rfl) (by kernel_rfl) (fun _ _ _ h => h) (Or.inr ⟨by kernel_rfl, rfl⟩) ⟨(hb2.cell (cell_lt c0)).trans c0, (hb2.cell (cell_lt c1)).trans c1, (hb2.cell (cell_lt c2)).trans c2, (hb2.cell (cell_lt c3)).trans c3⟩ ?_
        try simp only [Act.put, List.getElem_toArray, List.getElem_cons_zero, List.getElem_cons_succ, List.setIfInBounds_toArray, List.set_cons_zero, List.set_cons_succ]
        refine wpAnyH_take (i := 15) (oi := _) (v := undef) rfl (by kernel_rfl) (by kernel_rfl) (by kernel_rfl) (fun _ _ _ h => h) (Or.inr ⟨by kernel_rfl, rfl⟩) ⟨(hb2.cell (cell_lt c0)).trans c0, (hb2.cell (cell_lt c1)).trans c1, (hb2.cell (cell_lt c2)).trans c2, (hb2.cell (cell_lt c3)).trans c3⟩ ?_
        try simp only [Act.put, List.getElem_toArray, List.getElem_cons_zero, List.getElem_cons_succ, List.setIfInBounds_toArray, List.set_cons_zero, List.set_cons_succ]
        refine wpAnyH_take (i := 16) (oi := _) (v := undef) rfl (by kernel_rfl) (by kernel_rfl) (by kernel_rfl) (fun _ _ _ h => h) (Or.inr ⟨by kernel_rfl, rfl⟩) ⟨(hb2.cell (cell_lt c0)).trans c0, (hb2.cell (cell_lt c1)).trans c1, (hb2.cell (cell_lt c2)).trans c2, (hb2.cell (cell_lt c3)).trans c3⟩ ?_
        try simp only [Act.put, List.getElem_toArray, List.getElem_cons_zero, List.getElem_cons_succ, List.setIfInBounds_toArray, List.set_cons_zero, List.set_cons_succ]
        refine wpAnyH_take (i := 17) (oi := _) (v := undef) rfl (by kernel_rfl) (by kernel_rfl) (by kernel_rfl) (fun _ _ _ h => h) (Or.inr ⟨by kernel_rfl, rfl⟩) ⟨(hb2.cell (cell_lt c0)).trans c0, (hb2.cell (cell_lt c1)).trans c1, (hb2.cell (cell_lt c2)).trans c2, (hb2.cell (cell_lt c3)).trans c3⟩ ?_
        try simp only [Act.put, List.getElem_toArray, List.getElem_cons_zero, List.getElem_cons_succ, List.setIfInBounds_toArray, List.set_cons_zero, List.set_cons_succ]
        refine wpAnyH_take (i := 18) (oi := _) (v := undef) rfl (by kernel_rfl) (by kernel_rfl) (by kernel_rfl) (fun _ _ _ h => h) (Or.inr ⟨by kernel_rfl, rfl⟩) ⟨(hb2.cell (cell_lt c0)).trans c0, (hb2.cell (cell_lt c1)).trans c1, (hb2.cell (cell_lt c2)).trans c2, (hb2.cell (cell_lt c3)).trans c3⟩ ?_
        try simp only [Act.put, List.getElem_toArray, List.getElem_cons_zero, List.getElem_cons_succ, List.setIfInBounds_toArray, List.set_cons_zero, List.set_cons_succ]
        refine wpAnyH_take (i := 19) (oi := _) (v := undef) rfl (by kernel_rfl) (by kernel_rfl) (by kernel_rfl) (fun _ _ _ h => h) (Or.inr ⟨by kernel_rfl, rfl⟩) ⟨(hb2.cell (cell_lt c0)).trans c0, (hb2.cell (cell_lt c1)).trans c1, (hb2.cell (cell_lt c2)).trans c2, (hb2.cell (cell_lt c3)).trans c3⟩ ?_
        try simp only [Act.put, List.getElem_toArray, List.getElem_cons_zero, List.getElem_cons_succ, List.setIfInBounds_toArray, List.set_cons_zero, List.set_cons_succ]
        refine wpAnyH_take (i := 20) (oi := _) (v := undef) rfl (by kernel_rfl) (by kernel_rfl) (by kernel_rfl) (fun _ _ _ h => h) (Or.inr ⟨by kernel_rfl, rfl⟩) ⟨(hb2.cell (cell_lt c0)).trans c0, (hb2.cell (cell_lt c1)).trans c1, (hb2.cell (cell_lt c2)).trans c2, (hb2.cell (cell_lt c3)).trans c3⟩ ?_
        try simp only [Act.put, List.getElem_toArray, List.getElem_cons_zero, List.getElem_cons_succ, List.setIfInBounds_toArray, List.set_cons_zero, List.set_cons_succ]
        refine wpAnyH_take (i := 21) (oi := _) (v := undef) rfl (by kernel_rfl) (by kernel_rfl) (by kernel_rfl) (fun _ _ _ h => h) (Or.inr ⟨by kernel_rfl, rfl⟩) ⟨(hb2.cell (cell_lt c0)).trans c0, (hb2.cell (cell_lt c1)).trans c1, (hb2.cell (cell_lt c2)).trans c2, (hb2.cell (cell_lt c3)).trans c3⟩ ?_
        try simp only [Act.put, List.getElem_toArray, List.getElem_cons_zero, List.getElem_cons_succ, List.setIfInBounds_toArray, List.set_cons_zero, List.set_cons_succ]
        refine wpAnyH_take (i := 22) (oi := _) (v := undef) rfl (by kernel_rfl) (by kernel_rfl) (by kernel_rfl) (fun _ _ _ h => h) (Or.inr ⟨by kernel_rfl, rfl⟩) ⟨(hb2.cell (cell_lt c0)).trans c0, (hb2.cell (cell_lt c1)).trans c1, (hb2.cell (cell_lt c2)).trans c2, (hb2.cell (cell_lt c3)).trans c3⟩ ?_
        try simp only [Act.put, List.getElem_toArray, List.getElem_cons_zero, List.getElem_cons_succ, List.setIfInBounds_toArray, List.set_cons_zero, List.set_cons_succ]
        refine wpAnyH_take (i := 23) (oi := _) (v := undef) rfl (by kernel_rfl) (by kernel_rfl) (by kernel_rfl) (fun _ _ _ h => h) (Or.inr ⟨by kernel_rfl, rfl⟩) ⟨(hb2.cell (cell_lt c0)).trans c0, (hb2.cell (cell_lt c1)).trans c1, (hb2.cell (cell_lt c2)).trans c2, (hb2.cell (cell_lt c3)).trans c3⟩ ?_
        try simp only [Act.put, List.getElem_toArray, List.getElem_cons_zero, List.getElem_cons_succ, List.setIfInBounds_toArray, List.set_cons_zero, List.set_cons_succ]
        refine wpAnyH_take (i := 24) (oi := _) (v := undef) rfl (by kernel_rfl) (by kernel_rfl) (by kernel_rfl) (fun _ _ _ h => h) (Or.inr ⟨by kernel_rfl, rfl⟩) ⟨(hb2.cell (cell_lt c0)).trans c0, (hb2.cell (cell_lt c1)).trans c1, (hb2.cell (cell_lt c2)).trans c2, (hb2.cell (cell_lt c3)).trans c3⟩ ?_
        try simp only [Act.put, List.getElem_toArray, List.getElem_cons_zero, List.getElem_cons_succ, List.setIfInBounds_toArray, List.set_cons_zero, List.set_cons_succ]
        refine wpAnyH_take (i := 25) (oi := _) (v := undef) rfl (by kernel_rfl) (by kernel_rfl) (by kernel_rfl) (fun _ _ _ h => h) (Or.inr ⟨by kernel_rfl, rfl⟩) ⟨(hb2.cell (cell_lt c0)).trans c0, (hb2.cell (cell_lt c1)).trans c1, (hb2.cell (cell_lt c2)).trans c2, (hb2.cell (cell_lt c3)).trans c3⟩ ?_
        try simp only [Act.put, List.getElem_toArray, List.getElem_cons_zero, List.getElem_cons_succ, List.setIfInBounds_toArray, List.set_cons_zero, List.set_cons_succ]
        refine wpAnyH_take (i := 26) (oi := _) (v := undef) rfl (by kernel_rfl) (by kernel_rfl) (by kernel_rfl) (fun _ _ _ h => h) (Or.inr ⟨by kernel_rfl, rfl⟩) ⟨(hb2.cell (cell_lt c0)).trans c0, (hb2.cell (cell_lt c1)).trans c1, (hb2.cell (cell_lt c2)).trans c2, (hb2.cell (cell_lt c3)).trans c3⟩ ?_
        try simp only [Act.put, List.getElem_toArray, List.getElem_cons_zero, List.getElem_cons_succ, List.setIfInBounds_toArray, List.set_cons_zero, List.set_cons_succ]
        refine wpAnyH_take (i := 27) (oi := _) (v := undef) rfl (by kernel_rfl) (by kernel_rfl) (by kernel_rfl) (fun _ _ _ h => h) (Or.inr ⟨by kernel_rfl, rfl⟩) ⟨(hb2.cell (cell_lt c0)).trans c0, (hb2.cell (cell_lt c1)).trans c1, (hb2.cell (cell_lt c2)).trans c2, (hb2.cell (cell_lt c3)).trans c3⟩ ?_
        try simp only [Act.put, List.getElem_toArray, List.getElem_cons_zero, List.getElem_cons_succ, List.setIfInBounds_toArray, List.set_cons_zero, List.set_cons_succ]
        refine wpAnyH_take (i := 28) (oi := _) (v := undef) rfl (by kernel_rfl) (by kernel_rfl) (by kernel_rfl) (fun _ _ _ h => h) (Or.inr ⟨by kernel_rfl, rfl⟩) ⟨(hb2.cell (cell_lt c0)).trans c0, (hb2.cell (cell_lt c1)).trans c1, (hb2.cell (cell_lt c2)).trans c2, (hb2.cell (cell_lt c3)).trans c3⟩ ?_
        try simp only [Act.put, List.getElem_toArray, List.getElem_cons_zero, List.getElem_cons_succ, List.setIfInBounds_toArray, List.set_cons_zero, List.set_cons_succ]
        refine wpAnyH_take (i := 29) (oi := _) (v := undef) rfl (by kernel_rfl) (by kernel_rfl) (by kernel_rfl) (fun _ _ _ h => h) (Or.inr ⟨by kernel_rfl, rfl⟩) ⟨(hb2.cell (cell_lt c0)).trans c0, (hb2.cell (cell_lt c1)).trans c1, (hb2.cell (cell_lt c2)).trans c2, (hb2.cell (cell_lt c3)).trans c3⟩ ?_
        try simp only [Act.put, List.getElem_toArray, List.getElem_cons_zero, List.getElem_cons_succ, List.setIfInBounds_toArray, List.set_cons_zero, List.set_cons_succ]
        refine wpAnyH_take (i := 30) (oi := _) (v := ?_) rfl (by kernel_rfl) (by kernel_rfl) (by kernel_rfl) (fun _ _ _ h => h) (Or.inl ⟨by kernel_rfl, ?_⟩) ⟨(hb2.cell (cell_lt c0)).trans c0, (hb2.cell (cell_lt c1)).trans c1, (hb2.cell (cell_lt c2)).trans c2, (hb2.cell (cell_lt c3)).trans c3⟩ ?_
        rotate_left
        · (rintro w ⟨s0, s1, s2, s3⟩; go_simp; (first | done | rfl))
        try simp only [Act.put, List.getElem_toArray, List.getElem_cons_zero, List.getElem_cons_succ, List.setIfInBounds_toArray, List.set_cons_zero, List.set_cons_succ]
        refine wpAnyH_done (by kernel_rfl) ?_ _
        refine NoPanic.normal ?_
        go_wp2
        go_ret
        rw [HB.out]
        exact ⟨rfl, below_step hb (below_undrew hb2) (Nat.le_refl _)⟩
      | true =>
        have hxl := may_len hm
        rcases Nat.eq_zero_or_pos k with h0 | h0
        · subst h0
          have hl0 := hst.first rfl
          subst hl0
          simp only [Nat.zero_mul, Nat.add_zero] at c0 c1 c2 c3
          have HL := Lib.hid (list_next hL hm (by omega))
          clear hL h hst
          go_wp2_with fail
          refine wp_region_noPanic ?_
          refine wp_region_held_drew (S := (fun w' => w'.cell? ⟨b, o, none⟩ = some (.int .i64 x.off) ∧ w'.cell? ⟨b, o + 1, none⟩ = some (.int .i64 x.len) ∧ w'.cell? ⟨b, o + 2, none⟩ = some (.int .i64 x.phys) ∧ w'.cell? ⟨b, o + 3, none⟩ = some (.int .i64 x.birth))) (by kernel_rfl) ⟨c0, c1, c2, c3⟩ (fun _ => ?_)
          refine wpAnyH_take (i := 0) (oi := _) (v := ?_) rfl (by kernel_rfl) (by kernel_rfl) (by kernel_rfl) (fun _ _ _ h => h) (Or.inl ⟨by kernel_rfl, ?_⟩) ⟨c0, c1, c2, c3⟩ ?_
          rotate_left
          · (rintro w ⟨s0, s1, s2, s3⟩; go_simp; (first | done | rfl))
          try simp only [Act.put, List.getElem_toArray, List.getElem_cons_zero, List.getElem_cons_succ, List.setIfInBounds_toArray, List.set_cons_zero, List.set_cons_succ]
          refine wpAnyH_take (i := 1) (oi := _) (v := ?_) rfl (by kernel_rfl) (by kernel_rfl) (by kernel_rfl) (fun _ _ _ h => h) (Or.inl ⟨by kernel_rfl, ?_⟩) ⟨c0, c1, c2, c3⟩ ?_
          rotate_left
          · (rintro w ⟨s0, s1, s2, s3⟩; go_simp; (first | done | rfl))
          try simp only [Act.put, List.getElem_toArray, List.getElem_cons_zero, List.getElem_cons_succ, List.setIfInBounds_toArray, List.set_cons_zero, List.set_cons_succ]
          refine wpAnyH_take (i := 2) (oi := _) (v := ?_) rfl (by kernel_rfl) (by kernel_rfl) (by kernel_rfl) (fun _ _ _ h => h) (Or.inl ⟨by kernel_rfl, ?_⟩) ⟨c0, c1, c2, c3⟩ ?_
          rotate_left
          · (rintro w ⟨s0, s1, s2, s3⟩; go_simp; (first | done | rfl))
          try simp only [Act.put, List.getElem_toArray, List.getElem_cons_zero, List.getElem_cons_succ, List.setIfInBounds_toArray, List.set_cons_zero, List.set_cons_succ]
          refine wpAnyH_take (i := 3) (oi := _) (v := ?_) rfl (by kernel_rfl) (by kernel_rfl) (by kernel_rfl) (fun _ _ _ h => h) (Or.inl ⟨by kernel_rfl, ?_⟩) ⟨c0, c1, c2, c3⟩ ?_
          rotate_left
          · (rintro w ⟨s0, s1, s2, s3⟩; go_simp; (first | done | rfl))
          try simp only [Act.put, List.getElem_toArray, List.getElem_cons_zero, List.getElem_cons_succ, List.setIfInBounds_toArray, List.set_cons_zero, List.set_cons_succ]
          refine wpAnyH_ready (rs := [4]) (by kernel_rfl) (by simp) (AllReadyH.cons (o := _) rfl (fun K hK => ?_) AllReadyH.nil)
          go_simp
          go_at_call 41
          refine (rmay_ _ x fx).mono ?_
          rw [hm]
          rintro e w2 ⟨rfl, hb2⟩
          go_wp2_with fail
          refine hK.out _ _ ⟨(hb2.cell (cell_lt c0)).trans c0, (hb2.cell (cell_lt c1)).trans c1, (hb2.cell (cell_lt c2)).trans c2, (hb2.cell (cell_lt c3)).trans c3⟩ (fun _ => ?_)
          clear hK K
          try simp only [Act.put, List.getElem_toArray, List.getElem_cons_zero, List.getElem_cons_succ, List.setIfInBounds_toArray, List.set_cons_zero, List.set_cons_succ]
          refine wpAnyH_take (i := 5) (oi := _) (v := ?_) rfl (by kernel_rfl) (by kernel_rfl) (by kernel_rfl) (fun _ _ _ h => h) (Or.inl ⟨by kernel_rfl, ?_⟩) ⟨(hb2.cell (cell_lt c0)).trans c0, (hb2.cell (cell_lt c1)).trans c1, (hb2.cell (cell_lt c2)).trans c2, (hb2.cell (cell_lt c3)).trans c3⟩ ?_
          rotate_left
          · (rintro w ⟨s0, s1, s2, s3⟩; go_simp; (first | done | rfl))
          try simp only [Act.put, List.getElem_toArray, List.getElem_cons_zero, List.getElem_cons_succ, List.setIfInBounds_toArray, List.set_cons_zero, List.set_cons_succ]
          refine wpAnyH_take (i := 6) (oi := _) (v := ?_) rfl (by kernel_rfl) (by kernel_rfl) (by kernel_rfl) (fun _ _ _ h => h) (Or.inl ⟨by kernel_rfl, ?_⟩) ⟨(hb2.cell (cell_lt c0)).trans c0, (hb2.cell (cell_lt c1)).trans c1, (hb2.cell (cell_lt c2)).trans c2, (hb2.cell (cell_lt c3)).trans c3⟩ ?_
          rotate_left
          · (rintro w ⟨s0, s1, s2, s3⟩; go_simp; (first | done | rfl))
          try simp only [Act.put, List.getElem_toArray, List.getElem_cons_zero, List.getElem_cons_succ, List.setIfInBounds_toArray, List.set_cons_zero, List.set_cons_succ]
          refine wpAnyH_take (i := 7) (oi := _) (v := ?_) rfl (by kernel_rfl) (by kernel_rfl) (by kernel_rfl) (fun _ _ _ h => h) (Or.inl ⟨by kernel_rfl, ?_⟩) ⟨(hb2.cell (cell_lt c0)).trans c0, (hb2.cell (cell_lt c1)).trans c1, (hb2.cell (cell_lt c2)).trans c2, (hb2.cell (cell_lt c3)).trans c3⟩ ?_
          rotate_left
          · (rintro w ⟨s0, s1, s2, s3⟩; go_simp; (first | done | rfl))
          try simp only [Act.put, List.getElem_toArray, List.getElem_cons_zero, List.getElem_cons_succ, List.setIfInBounds_toArray, List.set_cons_zero, List.set_cons_succ]
          refine wpAnyH_take (i := 8) (oi := _) (v := ?_) rfl (by kernel_rfl) (by kernel_rfl) (by kernel_rfl) (fun _ _ _ h => h) (Or.inl ⟨by kernel_rfl, ?_⟩) ⟨(hb2.cell (cell_lt c0)).trans c0, (hb2.cell (cell_lt c1)).trans c1, (hb2.cell (cell_lt c2)).trans c2, (hb2.cell (cell_lt c3)).trans c3⟩ ?_
          rotate_left
          · (rintro w ⟨s0, s1, s2, s3⟩; go_simp; (first | done | rfl))
          try simp only [Act.put, List.getElem_toArray, List.getElem_cons_zero, List.getElem_cons_succ, List.setIfInBounds_toArray, List.set_cons_zero, List.set_cons_succ]
          refine wpAnyH_take (i := 9) (oi := _) (v := ?_) rfl (by kernel_rfl) (by kernel_rfl) (by kernel_rfl) (fun _ _ _ h => h) (Or.inl ⟨by kernel_rfl, ?_⟩) ⟨(hb2.cell (cell_lt c0)).trans c0, (hb2.cell (cell_lt c1)).trans c1, (hb2.cell (cell_lt c2)).trans c2, (hb2.cell (cell_lt c3)).trans c3⟩ ?_
          rotate_left
          · (rintro w ⟨s0, s1, s2, s3⟩; go_simp; (first | done | rfl))
          try simp only [Act.put, List.getElem_toArray, List.getElem_cons_zero, List.getElem_cons_succ, List.setIfInBounds_toArray, List.set_cons_zero, List.set_cons_succ]
          refine wpAnyH_take (i := 10) (oi := _) (v := undef) rfl (by kernel_rfl) (by kernel_rfl) (by kernel_rfl) (fun _ _ _ h => h) (Or.inr ⟨by kernel_rfl, rfl⟩) ⟨(hb2.cell (cell_lt c0)).trans c0, (hb2.cell (cell_lt c1)).trans c1, (hb2.cell (cell_lt c2)).trans c2, (hb2.cell (cell_lt c3)).trans c3⟩ ?_
          try simp only [Act.put, List.getElem_toArray, List.getElem_cons_zero, List.getElem_cons_succ, List.setIfInBounds_toArray, List.set_cons_zero, List.set_cons_succ]
          refine wpAnyH_take (i := 11) (oi := _) (v := undef) rfl (by kernel_rfl) (by kernel_rfl) (by kernel_rfl) (fun _ _ _ h => h) (Or.inr ⟨by kernel_rfl, rfl⟩) ⟨(hb2.cell (cell_lt c0)).trans c0, (hb2.cell (cell_lt c1)).trans c1, (hb2.cell (cell_lt c2)).trans c2, (hb2.cell (cell_lt c3)).trans c3⟩ ?_
          try simp only [Act.put, List.getElem_toArray, List.getElem_cons_zero, List.getElem_cons_succ, List.setIfInBounds_toArray, List.set_cons_zero, List.set_cons_succ]
          refine wpAnyH_take (i := 12) (oi := _) (v := undef) rfl (by kernel_rfl) (by kernel_rfl) (by kernel_rfl) (fun _ _ _ h => h) (Or.inr ⟨by kernel_rfl, rfl⟩) ⟨(hb2.cell (cell_lt c0)).trans c0, (hb2.cell (cell_lt c1)).trans c1, (hb2.cell (cell_lt c2)).trans c2, (hb2.cell (cell_lt c3)).trans c3⟩ ?_
          try simp only [Act.put, List.getElem_toArray, List.getElem_cons_zero, List.getElem_cons_succ, List.setIfInBounds_toArray, List.set_cons_zero, List.set_cons_succ]
          refine wpAnyH_take (i := 13) (oi := _) (v := undef) rfl (by kernel_rfl) (by kernel_rfl) (by kernel_rfl) (fun _ _ _ h => h) (Or.inr ⟨by kernel_rfl, rfl⟩) ⟨(hb2.cell (cell_lt c0)).trans c0, (hb2.cell (cell_lt c1)).trans c1, (hb2.cell (cell_lt c2)).trans c2, (hb2.cell (cell_lt c3)).trans c3⟩ ?_
          try simp only [Act.put, List.getElem_toArray, List.getElem_cons_zero, List.getElem_cons_succ, List.setIfInBounds_toArray, List.set_cons_zero, List.set_cons_succ]
          refine wpAnyH_take (i := 14) (oi := _) (v := undef) rfl (by kernel_rfl) (by kernel_rfl) (by kernel_rfl) (fun _ _ _ h => h) (Or.inr ⟨by kernel_rfl, rfl⟩) ⟨(hb2.cell (cell_lt c0)).trans c0, (hb2.cell (cell_lt c1)).trans c1, (hb2.cell (cell_lt c2)).trans c2, (hb2.cell (cell_lt c3)).trans c3⟩ ?_
          try simp only [Act.put, List.getElem_toArray, List.getElem_cons_zero, List.getElem_cons_succ, List.setIfInBounds_toArray, List.set_cons_zero, List.set_cons_succ]
          refine wpAnyH_take (i := 15) (oi := _) (v := undef) rfl (by kernel_rfl) (by kernel_rfl) (by kernel_rfl) (fun _ _ _ h => h) (Or.inr ⟨by kernel_rfl, rfl⟩) ⟨(hb2.cell (cell_lt c0)).trans c0, (hb2.cell (cell_lt c1)).trans c1, (hb2.cell (cell_lt c2)).trans c2, (hb2.cell (cell_lt c3)).trans c3⟩ ?_
          try simp only [Act.put, List.getElem_toArray, List.getElem_cons_zero, List.getElem_cons_succ, List.setIfInBounds_toArray, List.set_cons_zero, List.set_cons_succ]
          refine wpAnyH_take (i := 16) (oi := _) (v := undef) rfl (by kernel_rfl) (by kernel_rfl) (by kernel_rfl) (fun _ _ _ h => h) (Or.inr ⟨by kernel_rfl, rfl⟩) ⟨(hb2.cell (cell_lt c0)).trans c0, (hb2.cell (cell_lt c1)).trans c1, (hb2.cell (cell_lt c2)).trans c2, (hb2.cell (cell_lt c3)).trans c3⟩ ?_
          try simp only [Act.put, List.getElem_toArray, List.getElem_cons_zero, List.getElem_cons_succ, List.setIfInBounds_toArray, List.set_cons_zero, List.set_cons_succ]
          refine wpAnyH_take (i := 17) (oi := _) (v := undef) rfl (by kernel_rfl) (by kernel_rfl) (by kernel_rfl) (fun _ _ _ h => h) (Or.inr ⟨by kernel_rfl, rfl⟩) ⟨(hb2.cell (cell_lt c0)).trans c0, (hb2.cell (cell_lt c1)).trans c1, (hb2.cell (cell_lt c2)).trans c2, (hb2.cell (cell_lt c3)).trans c3⟩ ?_
          try simp only [Act.put, List.getElem_toArray, List.getElem_cons_zero, List.getElem_cons_succ, List.setIfInBounds_toArray, List.set_cons_zero, List.set_cons_succ]
          refine wpAnyH_take (i := 18) (oi := _) (v := undef) rfl (by kernel_rfl) (by kernel_rfl) (by kernel_rfl) (fun _ _ _ h => h) (Or.inr ⟨by kernel_rfl, rfl⟩) ⟨(hb2.cell (cell_lt c0)).trans c0, (hb2.cell (cell_lt c1)).trans c1, (hb2.cell (cell_lt c2)).trans c2, (hb2.cell (cell_lt c3)).trans c3⟩ ?_
          try simp only [Act.put, List.getElem_toArray, List.getElem_cons_zero, List.getElem_cons_succ, List.setIfInBounds_toArray, List.set_cons_zero, List.set_cons_succ]
          refine wpAnyH_take (i := 19) (oi := _) (v := undef) rfl (by kernel_rfl) (by kernel_rfl) (by kernel_rfl) (fun _ _ _ h => h) (Or.inr ⟨by kernel_rfl, rfl⟩) ⟨(hb2.cell (cell_lt c0)).trans c0, (hb2.cell (cell_lt c1)).trans c1, (hb2.cell (cell_lt c2)).trans c2, (hb2.cell (cell_lt c3)).trans c3⟩ ?_
          try simp only [Act.put, List.getElem_toArray, List.getElem_cons_zero, List.getElem_cons_succ, List.setIfInBounds_toArray, List.set_cons_zero, List.set_cons_succ]
          refine wpAnyH_take (i := 20) (oi := _) (v := undef) rfl (by kernel_rfl) (by kernel_rfl) (by kernel_rfl) (fun _ _ _ h => h) (Or.inr ⟨by kernel_rfl, rfl⟩) ⟨(hb2.cell (cell_lt c0)).trans c0, (hb2.cell (cell_lt c1)).trans c1, (hb2.cell (cell_lt c2)).trans c2, (hb2.cell (cell_lt c3)).trans c3⟩ ?_
          try simp only [Act.put, List.getElem_toArray, List.getElem_cons_zero, List.getElem_cons_succ, List.setIfInBounds_toArray, List.set_cons_zero, List.set_cons_succ]
          refine wpAnyH_take (i := 21) (oi := _) (v := undef) rfl (by kernel_rfl) (by kernel_rfl) (by kernel_rfl) (fun _ _ _ h => h) (Or.inr ⟨by kernel_rfl, rfl⟩) ⟨(hb2.cell (cell_lt c0)).trans c0, (hb2.cell (cell_lt c1)).trans c1, (hb2.cell (cell_lt c2)).trans c2, (hb2.cell (cell_lt c3)).trans c3⟩ ?_
          try simp only [Act.put, List.getElem_toArray, List.getElem_cons_zero, List.getElem_cons_succ, List.setIfInBounds_toArray, List.set_cons_zero, List.set_cons_succ]
          refine wpAnyH_take (i := 22) (oi := _) (v := undef) rfl (by kernel_rfl) (by kernel_rfl) (by kernel_rfl) (fun _ _ _ h => h) (Or.inr ⟨by kernel_rfl, rfl⟩) ⟨(hb2.cell (cell_lt c0)).trans c0, (hb2.cell (cell_lt c1)).trans c1, (hb2.cell (cell_lt c2)).trans c2, (hb2.cell (cell_lt c3)).trans c3⟩ ?_
          try simp only [Act.put, List.getElem_toArray, List.getElem_cons_zero, List.getElem_cons_succ, List.setIfInBounds_toArray, List.set_cons_zero, List.set_cons_succ]
          refine wpAnyH_take (i := 23) (oi := _) (v := undef) rfl (by kernel_rfl) (by kernel_rfl) (by kernel_rfl) (fun _ _ _ h => h) (Or.inr ⟨by kernel_rfl, rfl⟩) ⟨(hb2.cell (cell_lt c0)).trans c0, (hb2.cell (cell_lt c1)).trans c1, (hb2.cell (cell_lt c2)).trans c2, (hb2.cell (cell_lt c3)).trans c3⟩ ?_
          try simp only [Act.put, List.getElem_toArray, List.getElem_cons_zero, List.getElem_cons_succ, List.setIfInBounds_toArray, List.set_cons_zero, List.set_cons_succ]
          refine wpAnyH_take (i := 24) (oi := _) (v := undef) rfl (by kernel_rfl) (by kernel_rfl) (by kernel_rfl) (fun _ _ _ h => h) (Or.inr ⟨by kernel_rfl, rfl⟩) ⟨(hb2.cell (cell_lt c0)).trans c0, (hb2.cell (cell_lt c1)).trans c1, (hb2.cell (cell_lt c2)).trans c2, (hb2.cell (cell_lt c3)).trans c3⟩ ?_
          try simp only [Act.put, List.getElem_toArray, List.getElem_cons_zero, List.getElem_cons_succ, List.setIfInBounds_toArray, List.set_cons_zero, List.set_cons_succ]
          refine wpAnyH_take (i := 25) (oi := _) (v := undef) rfl (by kernel_rfl) (by kernel_rfl) (by kernel_rfl) (fun _ _ _ h => h) (Or.inr ⟨by kernel_rfl, rfl⟩) ⟨(hb2.cell (cell_lt c0)).trans c0, (hb2.cell (cell_lt c1)).trans c1, (hb2.cell (cell_lt c2)).trans c2, (hb2.cell (cell_lt c3)).trans c3⟩ ?_
          try simp only [Act.put, List.getElem_toArray, List.getElem_cons_zero, List.getElem_cons_succ, List.setIfInBounds_toArray, List.set_cons_zero, List.set_cons_succ]
          refine wpAnyH_take (i := 26) (oi := _) (v := undef) rfl (by kernel_rfl) (by kernel_rfl) (by kernel_rfl) (fun _ _ _ h => h) (Or.inr ⟨by kernel_rfl, rfl⟩) ⟨(hb2.cell (cell_lt c0)).trans c0, (hb2.cell (cell_lt c1)).trans c1, (hb2.cell (cell_lt c2)).trans c2, (hb2.cell (cell_lt c3)).trans c3⟩ ?_
          try simp only [Act.put, List.getElem_toArray, List.getElem_cons_zero, List.getElem_cons_succ, List.setIfInBounds_toArray, List.set_cons_zero, List.set_cons_succ]
          refine wpAnyH_take (i := 27) (oi := _) (v := undef) rfl (by kernel_rfl) (by kernel_rfl) (by kernel_rfl) (fun _ _ _ h => h) (Or.inr ⟨by kernel_rfl, rfl⟩) ⟨(hb2.cell (cell_lt c0)).trans c0, (hb2.cell (cell_lt c1)).trans c1, (hb2.cell (cell_lt c2)).trans c2, (hb2.cell (cell_lt c3)).trans c3⟩ ?_
          try simp only [Act.put, List.getElem_toArray, List.getElem_cons_zero, List.getElem_cons_succ, List.setIfInBounds_toArray, List.set_cons_zero, List.set_cons_succ]
          refine wpAnyH_take (i := 28) (oi := _) (v := undef) rfl (by kernel_rfl) (by kernel_rfl) (by kernel_rfl) (fun _ _ _ h => h) (Or.inr ⟨by kernel_rfl, rfl⟩) ⟨(hb2.cell (cell_lt c0)).trans c0, (hb2.cell (cell_lt c1)).trans c1, (hb2.cell (cell_lt c2)).trans c2, (hb2.cell (cell_lt c3)).trans c3⟩ ?_
          try simp only [Act.put, List.getElem_toArray, List.getElem_cons_zero, List.getElem_cons_succ, List.setIfInBounds_toArray, List.set_cons_zero, List.set_cons_succ]
          refine wpAnyH_take (i := 29) (oi := _) (v := ?_) rfl (by kernel_rfl) (by kernel_rfl) (by kernel_rfl) (fun _ _ _ h => h) (Or.inl ⟨by kernel_rfl, ?_⟩) ⟨(hb2.cell (cell_lt c0)).trans c0, (hb2.cell (cell_lt c1)).trans c1, (hb2.cell (cell_lt c2)).trans c2, (hb2.cell (cell_lt c3)).trans c3⟩ ?_
          rotate_left
          · (rintro w ⟨s0, s1, s2, s3⟩; go_simp; (first | done | rfl))
          try simp only [Act.put, List.getElem_toArray, List.getElem_cons_zero, List.getElem_cons_succ, List.setIfInBounds_toArray, List.set_cons_zero, List.set_cons_succ]
          refine wpAnyH_take (i := 30) (oi := _) (v := ?_) rfl (by kernel_rfl) (by kernel_rfl) (by kernel_rfl) (fun _ _ _ h => h) (Or.inl ⟨by kernel_rfl, ?_⟩) ⟨(hb2.cell (cell_lt c0)).trans c0, (hb2.cell (cell_lt c1)).trans c1, (hb2.cell (cell_lt c2)).trans c2, (hb2.cell (cell_lt c3)).trans c3⟩ ?_
          rotate_left
          · (rintro w ⟨s0, s1, s2, s3⟩; go_simp; (first | done | rfl))
          try simp only [Act.put, List.getElem_toArray, List.getElem_cons_zero, List.getElem_cons_succ, List.setIfInBounds_toArray, List.set_cons_zero, List.set_cons_succ]
          refine wpAnyH_done (by kernel_rfl) ?_ _
          refine NoPanic.normal ?_
          go_wp2
          go_roundw
          case rel => exact ⟨0 + 1, x.off + x.len, by omega, by go_num, ⟨by omega, by omega, fun e => by omega, fun m e => ⟨x, by rw [show m = 0 by omega]; exact hx, hm, rfl⟩⟩, HL.out, below_step hb (below_undrew hb2) (Nat.le_refl _)⟩
          case measure => simp [intOf]; omega
        · obtain ⟨m, hkm⟩ : ∃ m, k = m + 1 := ⟨k - 1, by omega⟩
          obtain ⟨y, hy, hym, hlo⟩ := hst.ahead m hkm
          obtain ⟨b', o', e', y', hy', fy, d0, d1, d2, d3⟩ := (h.below hb).at_ (k := m) (by omega)
          rw [hy] at hy'
          injection hy' with hy'
          subst hy'
          injection e' with e'
          injection e' with e1 e2
          subst e1 e2
          have hyl := may_len hym
          have hpos : (0 : Int) < (k : Int) := by omega
          have hw1 : IntKind.i64.wrap ((k : Int) - 1) = (m : Int) := by rw [IntKind.wrap_i64]; omega
          have hw2 : IntKind.i64.wrap (y.off + y.len) = lo := by rw [IntKind.wrap_i64]; omega
          have hm0 : (0 : Int) ≤ (m : Int) := by omega
          have hmn : (m : Int) < (n : Int) := by omega
          have Hkm := Lib.hid hkm
          have Hlo := Lib.hid hlo
          clear hkm hlo h hst
          by_cases he : x.off < lo
          · have HB := Lib.hid (list_noend hL he)
            clear hL
            go_wp2_with fail
            refine wp_region_noPanic ?_
            refine wp_region_held_drew (S := (fun w' => w'.cell? ⟨b, o + k * 4, none⟩ = some (.int .i64 x.off) ∧ w'.cell? ⟨b, o + k * 4 + 1, none⟩ = some (.int .i64 x.len) ∧ w'.cell? ⟨b, o + k * 4 + 2, none⟩ = some (.int .i64 x.phys) ∧ w'.cell? ⟨b, o + k * 4 + 3, none⟩ = some (.int .i64 x.birth) ∧ w'.cell? ⟨b, o + m * 4, none⟩ = some (.int .i64 y.off) ∧ w'.cell? ⟨b, o + m * 4 + 1, none⟩ = some (.int .i64 y.len))) (by kernel_rfl) ⟨c0, c1, c2, c3, d0, d1⟩ (fun _ => ?_)
            refine wpAnyH_take (i := 0) (oi := _) (v := ?_) rfl (by kernel_rfl) (by kernel_rfl) (by kernel_rfl) (fun _ _ _ h => h) (Or.inl ⟨by kernel_rfl, ?_⟩) ⟨c0, c1, c2, c3, d0, d1⟩ ?_
            rotate_left
            · (rintro w ⟨s0, s1, s2, s3, s4, s5⟩; go_simp; (first | done | rfl))
            try simp only [Act.put, List.getElem_toArray, List.getElem_cons_zero, List.getElem_cons_succ, List.setIfInBounds_toArray, List.set_cons_zero, List.set_cons_succ]
            refine wpAnyH_take (i := 1) (oi := _) (v := ?_) rfl (by kernel_rfl) (by kernel_rfl) (by kernel_rfl) (fun _ _ _ h => h) (Or.inl ⟨by kernel_rfl, ?_⟩) ⟨c0, c1, c2, c3, d0, d1⟩ ?_
            rotate_left
            · (rintro w ⟨s0, s1, s2, s3, s4, s5⟩; go_simp; (first | done | rfl))
            try simp only [Act.put, List.getElem_toArray, List.getElem_cons_zero, List.getElem_cons_succ, List.setIfInBounds_toArray, List.set_cons_zero, List.set_cons_succ]
            refine wpAnyH_take (i := 2) (oi := _) (v := ?_) rfl (by kernel_rfl) (by kernel_rfl) (by kernel_rfl) (fun _ _ _ h => h) (Or.inl ⟨by kernel_rfl, ?_⟩) ⟨c0, c1, c2, c3, d0, d1⟩ ?_
            rotate_left
            · (rintro w ⟨s0, s1, s2, s3, s4, s5⟩; go_simp; (first | done | rfl))
            try simp only [Act.put, List.getElem_toArray, List.getElem_cons_zero, List.getElem_cons_succ, List.setIfInBounds_toArray, List.set_cons_zero, List.set_cons_succ]
            refine wpAnyH_take (i := 3) (oi := _) (v := ?_) rfl (by kernel_rfl) (by kernel_rfl) (by kernel_rfl) (fun _ _ _ h => h) (Or.inl ⟨by kernel_rfl, ?_⟩) ⟨c0, c1, c2, c3, d0, d1⟩ ?_
            rotate_left
            · (rintro w ⟨s0, s1, s2, s3, s4, s5⟩; go_simp; (first | done | rfl))
            try simp only [Act.put, List.getElem_toArray, List.getElem_cons_zero, List.getElem_cons_succ, List.setIfInBounds_toArray, List.set_cons_zero, List.set_cons_succ]
            refine wpAnyH_ready (rs := [4]) (by kernel_rfl) (by simp) (AllReadyH.cons (o := _) rfl (fun K hK => ?_) AllReadyH.nil)
            go_simp
            go_at_call 41
            refine (rmay_ _ x fx).mono ?_
            rw [hm]
            rintro e w2 ⟨rfl, hb2⟩
            go_wp2_with fail
            refine hK.out _ _ ⟨(hb2.cell (cell_lt c0)).trans c0, (hb2.cell (cell_lt c1)).trans c1, (hb2.cell (cell_lt c2)).trans c2, (hb2.cell (cell_lt c3)).trans c3, (hb2.cell (cell_lt d0)).trans d0, (hb2.cell (cell_lt d1)).trans d1⟩ (fun _ => ?_)
            clear hK K
            try simp only [Act.put, List.getElem_toArray, List.getElem_cons_zero, List.getElem_cons_succ, List.setIfInBounds_toArray, List.set_cons_zero, List.set_cons_succ]
            refine wpAnyH_take (i := 5) (oi := _) (v := ?_) rfl (by kernel_rfl) (by kernel_rfl) (by kernel_rfl) (fun _ _ _ h => h) (Or.inl ⟨by kernel_rfl, ?_⟩) ⟨(hb2.cell (cell_lt c0)).trans c0, (hb2.cell (cell_lt c1)).trans c1, (hb2.cell (cell_lt c2)).trans c2, (hb2.cell (cell_lt c3)).trans c3, (hb2.cell (cell_lt d0)).trans d0, (hb2.cell (cell_lt d1)).trans d1⟩ ?_
            rotate_left
            · (rintro w ⟨s0, s1, s2, s3, s4, s5⟩; go_simp; (first | done | rfl))
            try simp only [Act.put, List.getElem_toArray, List.getElem_cons_zero, List.getElem_cons_succ, List.setIfInBounds_toArray, List.set_cons_zero, List.set_cons_succ]
            refine wpAnyH_take (i := 6) (oi := _) (v := ?_) rfl (by kernel_rfl) (by kernel_rfl) (by kernel_rfl) (fun _ _ _ h => h) (Or.inl ⟨by kernel_rfl, ?_⟩) ⟨(hb2.cell (cell_lt c0)).trans c0, (hb2.cell (cell_lt c1)).trans c1, (hb2.cell (cell_lt c2)).trans c2, (hb2.cell (cell_lt c3)).trans c3, (hb2.cell (cell_lt d0)).trans d0, (hb2.cell (cell_lt d1)).trans d1⟩ ?_
            rotate_left
            · (rintro w ⟨s0, s1, s2, s3, s4, s5⟩; go_simp; (first | done | rfl))
            try simp only [Act.put, List.getElem_toArray, List.getElem_cons_zero, List.getElem_cons_succ, List.setIfInBounds_toArray, List.set_cons_zero, List.set_cons_succ]
            refine wpAnyH_take (i := 7) (oi := _) (v := ?_) rfl (by kernel_rfl) (by kernel_rfl) (by kernel_rfl) (fun _ _ _ h => h) (Or.inl ⟨by kernel_rfl, ?_⟩) ⟨(hb2.cell (cell_lt c0)).trans c0, (hb2.cell (cell_lt c1)).trans c1, (hb2.cell (cell_lt c2)).trans c2, (hb2.cell (cell_lt c3)).trans c3, (hb2.cell (cell_lt d0)).trans d0, (hb2.cell (cell_lt d1)).trans d1⟩ ?_
            rotate_left
            · (rintro w ⟨s0, s1, s2, s3, s4, s5⟩; go_simp; (first | done | rfl))
            try simp only [Act.put, List.getElem_toArray, List.getElem_cons_zero, List.getElem_cons_succ, List.setIfInBounds_toArray, List.set_cons_zero, List.set_cons_succ]
            refine wpAnyH_take (i := 8) (oi := _) (v := ?_) rfl (by kernel_rfl) (by kernel_rfl) (by kernel_rfl) (fun _ _ _ h => h) (Or.inl ⟨by kernel_rfl, ?_⟩) ⟨(hb2.cell (cell_lt c0)).trans c0, (hb2.cell (cell_lt c1)).trans c1, (hb2.cell (cell_lt c2)).trans c2, (hb2.cell (cell_lt c3)).trans c3, (hb2.cell (cell_lt d0)).trans d0, (hb2.cell (cell_lt d1)).trans d1⟩ ?_
            rotate_left
            · (rintro w ⟨s0, s1, s2, s3, s4, s5⟩; go_simp; (first | done | rfl))
            try simp only [Act.put, List.getElem_toArray, List.getElem_cons_zero, List.getElem_cons_succ, List.setIfInBounds_toArray, List.set_cons_zero, List.set_cons_succ]
            refine wpAnyH_take (i := 9) (oi := _) (v := ?_) rfl (by kernel_rfl) (by kernel_rfl) (by kernel_rfl) (fun _ _ _ h => h) (Or.inl ⟨by kernel_rfl, ?_⟩) ⟨(hb2.cell (cell_lt c0)).trans c0, (hb2.cell (cell_lt c1)).trans c1, (hb2.cell (cell_lt c2)).trans c2, (hb2.cell (cell_lt c3)).trans c3, (hb2.cell (cell_lt d0)).trans d0, (hb2.cell (cell_lt d1)).trans d1⟩ ?_
            rotate_left
            · (rintro w ⟨s0, s1, s2, s3, s4, s5⟩; go_simp; (first | done | rfl))
            try simp only [Act.put, List.getElem_toArray, List.getElem_cons_zero, List.getElem_cons_succ, List.setIfInBounds_toArray, List.set_cons_zero, List.set_cons_succ]
            refine wpAnyH_take (i := 10) (oi := _) (v := ?_) rfl (by kernel_rfl) (by kernel_rfl) (by kernel_rfl) (fun _ _ _ h => h) (Or.inl ⟨by kernel_rfl, ?_⟩) ⟨(hb2.cell (cell_lt c0)).trans c0, (hb2.cell (cell_lt c1)).trans c1, (hb2.cell (cell_lt c2)).trans c2, (hb2.cell (cell_lt c3)).trans c3, (hb2.cell (cell_lt d0)).trans d0, (hb2.cell (cell_lt d1)).trans d1⟩ ?_
            rotate_left
            · (rintro w ⟨s0, s1, s2, s3, s4, s5⟩; go_simp; (first | done | rfl))
            try simp only [Act.put, List.getElem_toArray, List.getElem_cons_zero, List.getElem_cons_succ, List.setIfInBounds_toArray, List.set_cons_zero, List.set_cons_succ]
            refine wpAnyH_take (i := 11) (oi := _) (v := ?_) rfl (by kernel_rfl) (by kernel_rfl) (by kernel_rfl) (fun _ _ _ h => h) (Or.inl ⟨by kernel_rfl, ?_⟩) ⟨(hb2.cell (cell_lt c0)).trans c0, (hb2.cell (cell_lt c1)).trans c1, (hb2.cell (cell_lt c2)).trans c2, (hb2.cell (cell_lt c3)).trans c3, (hb2.cell (cell_lt d0)).trans d0, (hb2.cell (cell_lt d1)).trans d1⟩ ?_
            rotate_left
            · (rintro w ⟨s0, s1, s2, s3, s4, s5⟩; go_simp; (first | done | rfl))
            try simp only [Act.put, List.getElem_toArray, List.getElem_cons_zero, List.getElem_cons_succ, List.setIfInBounds_toArray, List.set_cons_zero, List.set_cons_succ]
            refine wpAnyH_take (i := 12) (oi := _) (v := ?_) rfl (by kernel_rfl) (by kernel_rfl) (by kernel_rfl) (fun _ _ _ h => h) (Or.inl ⟨by kernel_rfl, ?_⟩) ⟨(hb2.cell (cell_lt c0)).trans c0, (hb2.cell (cell_lt c1)).trans c1, (hb2.cell (cell_lt c2)).trans c2, (hb2.cell (cell_lt c3)).trans c3, (hb2.cell (cell_lt d0)).trans d0, (hb2.cell (cell_lt d1)).trans d1⟩ ?_
            rotate_left
            · (rintro w ⟨s0, s1, s2, s3, s4, s5⟩; go_simp; (first | done | rfl))
            try simp only [Act.put, List.getElem_toArray, List.getElem_cons_zero, List.getElem_cons_succ, List.setIfInBounds_toArray, List.set_cons_zero, List.set_cons_succ]
            refine wpAnyH_take (i := 13) (oi := _) (v := ?_) rfl (by kernel_rfl) (by kernel_rfl) (by kernel_rfl) (fun _ _ _ h => h) (Or.inl ⟨by kernel_rfl, ?_⟩) ⟨(hb2.cell (cell_lt c0)).trans c0, (hb2.cell (cell_lt c1)).trans c1, (hb2.cell (cell_lt c2)).trans c2, (hb2.cell (cell_lt c3)).trans c3, (hb2.cell (cell_lt d0)).trans d0, (hb2.cell (cell_lt d1)).trans d1⟩ ?_
            rotate_left
            · (rintro w ⟨s0, s1, s2, s3, s4, s5⟩; go_simp; (first | done | rfl))
            try simp only [Act.put, List.getElem_toArray, List.getElem_cons_zero, List.getElem_cons_succ, List.setIfInBounds_toArray, List.set_cons_zero, List.set_cons_succ]
            refine wpAnyH_take (i := 14) (oi := _) (v := ?_) rfl (by kernel_rfl) (by kernel_rfl) (by kernel_rfl) (fun _ _ _ h => h) (Or.inl ⟨by kernel_rfl, ?_⟩) ⟨(hb2.cell (cell_lt c0)).trans c0, (hb2.cell (cell_lt c1)).trans c1, (hb2.cell (cell_lt c2)).trans c2, (hb2.cell (cell_lt c3)).trans c3, (hb2.cell (cell_lt d0)).trans d0, (hb2.cell (cell_lt d1)).trans d1⟩ ?_
            rotate_left
            · (rintro w ⟨s0, s1, s2, s3, s4, s5⟩; go_simp; (first | done | rfl))
            try simp only [Act.put, List.getElem_toArray, List.getElem_cons_zero, List.getElem_cons_succ, List.setIfInBounds_toArray, List.set_cons_zero, List.set_cons_succ]
            refine wpAnyH_take (i := 15) (oi := _) (v := ?_) rfl (by kernel_rfl) (by kernel_rfl) (by kernel_rfl) (fun _ _ _ h => h) (Or.inl ⟨by kernel_rfl, ?_⟩) ⟨(hb2.cell (cell_lt c0)).trans c0, (hb2.cell (cell_lt c1)).trans c1, (hb2.cell (cell_lt c2)).trans c2, (hb2.cell (cell_lt c3)).trans c3, (hb2.cell (cell_lt d0)).trans d0, (hb2.cell (cell_lt d1)).trans d1⟩ ?_
            rotate_left
            · (rintro w ⟨s0, s1, s2, s3, s4, s5⟩; go_simp; (first | done | rfl))
            try simp only [Act.put, List.getElem_toArray, List.getElem_cons_zero, List.getElem_cons_succ, List.setIfInBounds_toArray, List.set_cons_zero, List.set_cons_succ]
            refine wpAnyH_take (i := 16) (oi := _) (v := ?_) rfl (by kernel_rfl) (by kernel_rfl) (by kernel_rfl) (fun _ _ _ h => h) (Or.inl ⟨by kernel_rfl, ?_⟩) ⟨(hb2.cell (cell_lt c0)).trans c0, (hb2.cell (cell_lt c1)).trans c1, (hb2.cell (cell_lt c2)).trans c2, (hb2.cell (cell_lt c3)).trans c3, (hb2.cell (cell_lt d0)).trans d0, (hb2.cell (cell_lt d1)).trans d1⟩ ?_
            rotate_left
            · (rintro w ⟨s0, s1, s2, s3, s4, s5⟩; go_simp; (first | done | rfl))
            try simp only [Act.put, List.getElem_toArray, List.getElem_cons_zero, List.getElem_cons_succ, List.setIfInBounds_toArray, List.set_cons_zero, List.set_cons_succ]
            refine wpAnyH_take (i := 17) (oi := _) (v := ?_) rfl (by kernel_rfl) (by kernel_rfl) (by kernel_rfl) (fun _ _ _ h => h) (Or.inl ⟨by kernel_rfl, ?_⟩) ⟨(hb2.cell (cell_lt c0)).trans c0, (hb2.cell (cell_lt c1)).trans c1, (hb2.cell (cell_lt c2)).trans c2, (hb2.cell (cell_lt c3)).trans c3, (hb2.cell (cell_lt d0)).trans d0, (hb2.cell (cell_lt d1)).trans d1⟩ ?_
            rotate_left
            · (rintro w ⟨s0, s1, s2, s3, s4, s5⟩; go_simp; (first | done | rfl))
            try simp only [Act.put, List.getElem_toArray, List.getElem_cons_zero, List.getElem_cons_succ, List.setIfInBounds_toArray, List.set_cons_zero, List.set_cons_succ]
            refine wpAnyH_take (i := 18) (oi := _) (v := ?_) rfl (by kernel_rfl) (by kernel_rfl) (by kernel_rfl) (fun _ _ _ h => h) (Or.inl ⟨by kernel_rfl, ?_⟩) ⟨(hb2.cell (cell_lt c0)).trans c0, (hb2.cell (cell_lt c1)).trans c1, (hb2.cell (cell_lt c2)).trans c2, (hb2.cell (cell_lt c3)).trans c3, (hb2.cell (cell_lt d0)).trans d0, (hb2.cell (cell_lt d1)).trans d1⟩ ?_
            rotate_left
            · (rintro w ⟨s0, s1, s2, s3, s4, s5⟩; go_simp; (first | done | rfl))
            try simp only [Act.put, List.getElem_toArray, List.getElem_cons_zero, List.getElem_cons_succ, List.setIfInBounds_toArray, List.set_cons_zero, List.set_cons_succ]
            refine wpAnyH_take (i := 19) (oi := _) (v := ?_) rfl (by kernel_rfl) (by kernel_rfl) (by kernel_rfl) (fun _ _ _ h => h) (Or.inl ⟨by kernel_rfl, ?_⟩) ⟨(hb2.cell (cell_lt c0)).trans c0, (hb2.cell (cell_lt c1)).trans c1, (hb2.cell (cell_lt c2)).trans c2, (hb2.cell (cell_lt c3)).trans c3, (hb2.cell (cell_lt d0)).trans d0, (hb2.cell (cell_lt d1)).trans d1⟩ ?_
            rotate_left
            · (rintro w ⟨s0, s1, s2, s3, s4, s5⟩; go_simp; (first | done | rfl))
            try simp only [Act.put, List.getElem_toArray, List.getElem_cons_zero, List.getElem_cons_succ, List.setIfInBounds_toArray, List.set_cons_zero, List.set_cons_succ]
            refine wpAnyH_take (i := 20) (oi := _) (v := ?_) rfl (by kernel_rfl) (by kernel_rfl) (by kernel_rfl) (fun _ _ _ h => h) (Or.inl ⟨by kernel_rfl, ?_⟩) ⟨(hb2.cell (cell_lt c0)).trans c0, (hb2.cell (cell_lt c1)).trans c1, (hb2.cell (cell_lt c2)).trans c2, (hb2.cell (cell_lt c3)).trans c3, (hb2.cell (cell_lt d0)).trans d0, (hb2.cell (cell_lt d1)).trans d1⟩ ?_
            rotate_left
            · (rintro w ⟨s0, s1, s2, s3, s4, s5⟩; go_simp; (first | done | rfl))
            try simp only [Act.put, List.getElem_toArray, List.getElem_cons_zero, List.getElem_cons_succ, List.setIfInBounds_toArray, List.set_cons_zero, List.set_cons_succ]
            refine wpAnyH_take (i := 21) (oi := _) (v := ?_) rfl (by kernel_rfl) (by kernel_rfl) (by kernel_rfl) (fun _ _ _ h => h) (Or.inl ⟨by kernel_rfl, ?_⟩) ⟨(hb2.cell (cell_lt c0)).trans c0, (hb2.cell (cell_lt c1)).trans c1, (hb2.cell (cell_lt c2)).trans c2, (hb2.cell (cell_lt c3)).trans c3, (hb2.cell (cell_lt d0)).trans d0, (hb2.cell (cell_lt d1)).trans d1⟩ ?_
            rotate_left
            · (rintro w ⟨s0, s1, s2, s3, s4, s5⟩; go_simp; (first | done | rfl))
            try simp only [Act.put, List.getElem_toArray, List.getElem_cons_zero, List.getElem_cons_succ, List.setIfInBounds_toArray, List.set_cons_zero, List.set_cons_succ]
            refine wpAnyH_take (i := 22) (oi := _) (v := ?_) rfl (by kernel_rfl) (by kernel_rfl) (by kernel_rfl) (fun _ _ _ h => h) (Or.inl ⟨by kernel_rfl, ?_⟩) ⟨(hb2.cell (cell_lt c0)).trans c0, (hb2.cell (cell_lt c1)).trans c1, (hb2.cell (cell_lt c2)).trans c2, (hb2.cell (cell_lt c3)).trans c3, (hb2.cell (cell_lt d0)).trans d0, (hb2.cell (cell_lt d1)).trans d1⟩ ?_
            rotate_left
            · (rintro w ⟨s0, s1, s2, s3, s4, s5⟩; go_simp; (first | done | rfl))
            try simp only [Act.put, List.getElem_toArray, List.getElem_cons_zero, List.getElem_cons_succ, List.setIfInBounds_toArray, List.set_cons_zero, List.set_cons_succ]
            refine wpAnyH_take (i := 23) (oi := _) (v := ?_) rfl (by kernel_rfl) (by kernel_rfl) (by kernel_rfl) (fun _ _ _ h => h) (Or.inl ⟨by kernel_rfl, ?_⟩) ⟨(hb2.cell (cell_lt c0)).trans c0, (hb2.cell (cell_lt c1)).trans c1, (hb2.cell (cell_lt c2)).trans c2, (hb2.cell (cell_lt c3)).trans c3, (hb2.cell (cell_lt d0)).trans d0, (hb2.cell (cell_lt d1)).trans d1⟩ ?_
            rotate_left
            · (rintro w ⟨s0, s1, s2, s3, s4, s5⟩; go_simp; (first | done | rfl))
            try simp only [Act.put, List.getElem_toArray, List.getElem_cons_zero, List.getElem_cons_succ, List.setIfInBounds_toArray, List.set_cons_zero, List.set_cons_succ]
            refine wpAnyH_take (i := 24) (oi := _) (v := ?_) rfl (by kernel_rfl) (by kernel_rfl) (by kernel_rfl) (fun _ _ _ h => h) (Or.inl ⟨by kernel_rfl, ?_⟩) ⟨(hb2.cell (cell_lt c0)).trans c0, (hb2.cell (cell_lt c1)).trans c1, (hb2.cell (cell_lt c2)).trans c2, (hb2.cell (cell_lt c3)).trans c3, (hb2.cell (cell_lt d0)).trans d0, (hb2.cell (cell_lt d1)).trans d1⟩ ?_
            rotate_left
            · (rintro w ⟨s0, s1, s2, s3, s4, s5⟩; go_simp; (first | done | rfl))
            try simp only [Act.put, List.getElem_toArray, List.getElem_cons_zero, List.getElem_cons_succ, List.setIfInBounds_toArray, List.set_cons_zero, List.set_cons_succ]
            refine wpAnyH_take (i := 25) (oi := _) (v := ?_) rfl (by kernel_rfl) (by kernel_rfl) (by kernel_rfl) (fun _ _ _ h => h) (Or.inl ⟨by kernel_rfl, ?_⟩) ⟨(hb2.cell (cell_lt c0)).trans c0, (hb2.cell (cell_lt c1)).trans c1, (hb2.cell (cell_lt c2)).trans c2, (hb2.cell (cell_lt c3)).trans c3, (hb2.cell (cell_lt d0)).trans d0, (hb2.cell (cell_lt d1)).trans d1⟩ ?_
            rotate_left
            · (rintro w ⟨s0, s1, s2, s3, s4, s5⟩; go_simp; (first | done | rfl))
            try simp only [Act.put, List.getElem_toArray, List.getElem_cons_zero, List.getElem_cons_succ, List.setIfInBounds_toArray, List.set_cons_zero, List.set_cons_succ]
            refine wpAnyH_take (i := 26) (oi := _) (v := ?_) rfl (by kernel_rfl) (by kernel_rfl) (by kernel_rfl) (fun _ _ _ h => h) (Or.inl ⟨by kernel_rfl, ?_⟩) ⟨(hb2.cell (cell_lt c0)).trans c0, (hb2.cell (cell_lt c1)).trans c1, (hb2.cell (cell_lt c2)).trans c2, (hb2.cell (cell_lt c3)).trans c3, (hb2.cell (cell_lt d0)).trans d0, (hb2.cell (cell_lt d1)).trans d1⟩ ?_
            rotate_left
            · (rintro w ⟨s0, s1, s2, s3, s4, s5⟩; go_simp; (first | done | rfl))
            try simp only [Act.put, List.getElem_toArray, List.getElem_cons_zero, List.getElem_cons_succ, List.setIfInBounds_toArray, List.set_cons_zero, List.set_cons_succ]
            refine wpAnyH_take (i := 27) (oi := _) (v := ?_) rfl (by kernel_rfl) (by kernel_rfl) (by kernel_rfl) (fun _ _ _ h => h) (Or.inl ⟨by kernel_rfl, ?_⟩) ⟨(hb2.cell (cell_lt c0)).trans c0, (hb2.cell (cell_lt c1)).trans c1, (hb2.cell (cell_lt c2)).trans c2, (hb2.cell (cell_lt c3)).trans c3, (hb2.cell (cell_lt d0)).trans d0, (hb2.cell (cell_lt d1)).trans d1⟩ ?_
            rotate_left
            · (rintro w ⟨s0, s1, s2, s3, s4, s5⟩; go_simp; (first | done | rfl))
            try simp only [Act.put, List.getElem_toArray, List.getElem_cons_zero, List.getElem_cons_succ, List.setIfInBounds_toArray, List.set_cons_zero, List.set_cons_succ]
            refine wpAnyH_take (i := 28) (oi := _) (v := ?_) rfl (by kernel_rfl) (by kernel_rfl) (by kernel_rfl) (fun _ _ _ h => h) (Or.inl ⟨by kernel_rfl, ?_⟩) ⟨(hb2.cell (cell_lt c0)).trans c0, (hb2.cell (cell_lt c1)).trans c1, (hb2.cell (cell_lt c2)).trans c2, (hb2.cell (cell_lt c3)).trans c3, (hb2.cell (cell_lt d0)).trans d0, (hb2.cell (cell_lt d1)).trans d1⟩ ?_
            rotate_left
            · (rintro w ⟨s0, s1, s2, s3, s4, s5⟩; go_simp; (first | done | rfl))
            try simp only [Act.put, List.getElem_toArray, List.getElem_cons_zero, List.getElem_cons_succ, List.setIfInBounds_toArray, List.set_cons_zero, List.set_cons_succ]
            refine wpAnyH_take (i := 29) (oi := _) (v := ?_) rfl (by kernel_rfl) (by kernel_rfl) (by kernel_rfl) (fun _ _ _ h => h) (Or.inl ⟨by kernel_rfl, ?_⟩) ⟨(hb2.cell (cell_lt c0)).trans c0, (hb2.cell (cell_lt c1)).trans c1, (hb2.cell (cell_lt c2)).trans c2, (hb2.cell (cell_lt c3)).trans c3, (hb2.cell (cell_lt d0)).trans d0, (hb2.cell (cell_lt d1)).trans d1⟩ ?_
            rotate_left
            · (rintro w ⟨s0, s1, s2, s3, s4, s5⟩; go_simp; (first | done | rfl))
            try simp only [Act.put, List.getElem_toArray, List.getElem_cons_zero, List.getElem_cons_succ, List.setIfInBounds_toArray, List.set_cons_zero, List.set_cons_succ]
            refine wpAnyH_take (i := 30) (oi := _) (v := ?_) rfl (by kernel_rfl) (by kernel_rfl) (by kernel_rfl) (fun _ _ _ h => h) (Or.inl ⟨by kernel_rfl, ?_⟩) ⟨(hb2.cell (cell_lt c0)).trans c0, (hb2.cell (cell_lt c1)).trans c1, (hb2.cell (cell_lt c2)).trans c2, (hb2.cell (cell_lt c3)).trans c3, (hb2.cell (cell_lt d0)).trans d0, (hb2.cell (cell_lt d1)).trans d1⟩ ?_
            rotate_left
            · (rintro w ⟨s0, s1, s2, s3, s4, s5⟩; go_simp; (first | done | rfl))
            try simp only [Act.put, List.getElem_toArray, List.getElem_cons_zero, List.getElem_cons_succ, List.setIfInBounds_toArray, List.set_cons_zero, List.set_cons_succ]
            refine wpAnyH_done (by kernel_rfl) ?_ _
            refine NoPanic.normal ?_
            go_wp2
            go_ret
            rw [HB.out]
            exact ⟨rfl, below_step hb (below_undrew hb2) (Nat.le_refl _)⟩
          · have HL := Lib.hid (list_next hL hm he)
            clear hL
            go_wp2_with fail
            refine wp_region_noPanic ?_
            refine wp_region_held_drew (S := (fun w' => w'.cell? ⟨b, o + k * 4, none⟩ = some (.int .i64 x.off) ∧ w'.cell? ⟨b, o + k * 4 + 1, none⟩ = some (.int .i64 x.len) ∧ w'.cell? ⟨b, o + k * 4 + 2, none⟩ = some (.int .i64 x.phys) ∧ w'.cell? ⟨b, o + k * 4 + 3, none⟩ = some (.int .i64 x.birth) ∧ w'.cell? ⟨b, o + m * 4, none⟩ = some (.int .i64 y.off) ∧ w'.cell? ⟨b, o + m * 4 + 1, none⟩ = some (.int .i64 y.len))) (by kernel_rfl) ⟨c0, c1, c2, c3, d0, d1⟩ (fun _ => ?_)
            refine wpAnyH_take (i := 0) (oi := _) (v := ?_) rfl (by kernel_rfl) (by kernel_rfl) (by kernel_rfl) (fun _ _ _ h => h) (Or.inl ⟨by kernel_rfl, ?_⟩) ⟨c0, c1, c2, c3, d0, d1⟩ ?_
            rotate_left
            · (rintro w ⟨s0, s1, s2, s3, s4, s5⟩; go_simp; (first | done | rfl))
            try simp only [Act.put, List.getElem_toArray, List.getElem_cons_zero, List.getElem_cons_succ, List.setIfInBounds_toArray, List.set_cons_zero, List.set_cons_succ]
            refine wpAnyH_take (i := 1) (oi := _) (v := ?_) rfl (by kernel_rfl) (by kernel_rfl) (by kernel_rfl) (fun _ _ _ h => h) (Or.inl ⟨by kernel_rfl, ?_⟩) ⟨c0, c1, c2, c3, d0, d1⟩ ?_
            rotate_left
            · (rintro w ⟨s0, s1, s2, s3, s4, s5⟩; go_simp; (first | done | rfl))
            try simp only [Act.put, List.getElem_toArray, List.getElem_cons_zero, List.getElem_cons_succ, List.setIfInBounds_toArray, List.set_cons_zero, List.set_cons_succ]
            refine wpAnyH_take (i := 2) (oi := _) (v := ?_) rfl (by kernel_rfl) (by kernel_rfl) (by kernel_rfl) (fun _ _ _ h => h) (Or.inl ⟨by kernel_rfl, ?_⟩) ⟨c0, c1, c2, c3, d0, d1⟩ ?_
            rotate_left
            · (rintro w ⟨s0, s1, s2, s3, s4, s5⟩; go_simp; (first | done | rfl))
            try simp only [Act.put, List.getElem_toArray, List.getElem_cons_zero, List.getElem_cons_succ, List.setIfInBounds_toArray, List.set_cons_zero, List.set_cons_succ]
            refine wpAnyH_take (i := 3) (oi := _) (v := ?_) rfl (by kernel_rfl) (by kernel_rfl) (by kernel_rfl) (fun _ _ _ h => h) (Or.inl ⟨by kernel_rfl, ?_⟩) ⟨c0, c1, c2, c3, d0, d1⟩ ?_
            rotate_left
            · (rintro w ⟨s0, s1, s2, s3, s4, s5⟩; go_simp; (first | done | rfl))
            try simp only [Act.put, List.getElem_toArray, List.getElem_cons_zero, List.getElem_cons_succ, List.setIfInBounds_toArray, List.set_cons_zero, List.set_cons_succ]
            refine wpAnyH_ready (rs := [4]) (by kernel_rfl) (by simp) (AllReadyH.cons (o := _) rfl (fun K hK => ?_) AllReadyH.nil)
            go_simp
            go_at_call 41
            refine (rmay_ _ x fx).mono ?_
            rw [hm]
            rintro e w2 ⟨rfl, hb2⟩
            go_wp2_with fail
            refine hK.out _ _ ⟨(hb2.cell (cell_lt c0)).trans c0, (hb2.cell (cell_lt c1)).trans c1, (hb2.cell (cell_lt c2)).trans c2, (hb2.cell (cell_lt c3)).trans c3, (hb2.cell (cell_lt d0)).trans d0, (hb2.cell (cell_lt d1)).trans d1⟩ (fun _ => ?_)
            clear hK K
            try simp only [Act.put, List.getElem_toArray, List.getElem_cons_zero, List.getElem_cons_succ, List.setIfInBounds_toArray, List.set_cons_zero, List.set_cons_succ]
            refine wpAnyH_take (i := 5) (oi := _) (v := ?_) rfl (by kernel_rfl) (by kernel_rfl) (by kernel_rfl) (fun _ _ _ h => h) (Or.inl ⟨by kernel_rfl, ?_⟩) ⟨(hb2.cell (cell_lt c0)).trans c0, (hb2.cell (cell_lt c1)).trans c1, (hb2.cell (cell_lt c2)).trans c2, (hb2.cell (cell_lt c3)).trans c3, (hb2.cell (cell_lt d0)).trans d0, (hb2.cell (cell_lt d1)).trans d1⟩ ?_
            rotate_left
            · (rintro w ⟨s0, s1, s2, s3, s4, s5⟩; go_simp; (first | done | rfl))
            try simp only [Act.put, List.getElem_toArray, List.getElem_cons_zero, List.getElem_cons_succ, List.setIfInBounds_toArray, List.set_cons_zero, List.set_cons_succ]
            refine wpAnyH_take (i := 6) (oi := _) (v := ?_) rfl (by kernel_rfl) (by kernel_rfl) (by kernel_rfl) (fun _ _ _ h => h) (Or.inl ⟨by kernel_rfl, ?_⟩) ⟨(hb2.cell (cell_lt c0)).trans c0, (hb2.cell (cell_lt c1)).trans c1, (hb2.cell (cell_lt c2)).trans c2, (hb2.cell (cell_lt c3)).trans c3, (hb2.cell (cell_lt d0)).trans d0, (hb2.cell (cell_lt d1)).trans d1⟩ ?_
            rotate_left
            · (rintro w ⟨s0, s1, s2, s3, s4, s5⟩; go_simp; (first | done | rfl))
            try simp only [Act.put, List.getElem_toArray, List.getElem_cons_zero, List.getElem_cons_succ, List.setIfInBounds_toArray, List.set_cons_zero, List.set_cons_succ]
            refine wpAnyH_take (i := 7) (oi := _) (v := ?_) rfl (by kernel_rfl) (by kernel_rfl) (by kernel_rfl) (fun _ _ _ h => h) (Or.inl ⟨by kernel_rfl, ?_⟩) ⟨(hb2.cell (cell_lt c0)).trans c0, (hb2.cell (cell_lt c1)).trans c1, (hb2.cell (cell_lt c2)).trans c2, (hb2.cell (cell_lt c3)).trans c3, (hb2.cell (cell_lt d0)).trans d0, (hb2.cell (cell_lt d1)).trans d1⟩ ?_
            rotate_left
            · (rintro w ⟨s0, s1, s2, s3, s4, s5⟩; go_simp; (first | done | rfl))
            try simp only [Act.put, List.getElem_toArray, List.getElem_cons_zero, List.getElem_cons_succ, List.setIfInBounds_toArray, List.set_cons_zero, List.set_cons_succ]
            refine wpAnyH_take (i := 8) (oi := _) (v := ?_) rfl (by kernel_rfl) (by kernel_rfl) (by kernel_rfl) (fun _ _ _ h => h) (Or.inl ⟨by kernel_rfl, ?_⟩) ⟨(hb2.cell (cell_lt c0)).trans c0, (hb2.cell (cell_lt c1)).trans c1, (hb2.cell (cell_lt c2)).trans c2, (hb2.cell (cell_lt c3)).trans c3, (hb2.cell (cell_lt d0)).trans d0, (hb2.cell (cell_lt d1)).trans d1⟩ ?_
            rotate_left
            · (rintro w ⟨s0, s1, s2, s3, s4, s5⟩; go_simp; (first | done | rfl))
            try simp only [Act.put, List.getElem_toArray, List.getElem_cons_zero, List.getElem_cons_succ, List.setIfInBounds_toArray, List.set_cons_zero, List.set_cons_succ]
            refine wpAnyH_take (i := 9) (oi := _) (v := ?_) rfl (by kernel_rfl) (by kernel_rfl) (by kernel_rfl) (fun _ _ _ h => h) (Or.inl ⟨by kernel_rfl, ?_⟩) ⟨(hb2.cell (cell_lt c0)).trans c0, (hb2.cell (cell_lt c1)).trans c1, (hb2.cell (cell_lt c2)).trans c2, (hb2.cell (cell_lt c3)).trans c3, (hb2.cell (cell_lt d0)).trans d0, (hb2.cell (cell_lt d1)).trans d1⟩ ?_
            rotate_left
            · (rintro w ⟨s0, s1, s2, s3, s4, s5⟩; go_simp; (first | done | rfl))
            try simp only [Act.put, List.getElem_toArray, List.getElem_cons_zero, List.getElem_cons_succ, List.setIfInBounds_toArray, List.set_cons_zero, List.set_cons_succ]
            refine wpAnyH_take (i := 10) (oi := _) (v := ?_) rfl (by kernel_rfl) (by kernel_rfl) (by kernel_rfl) (fun _ _ _ h => h) (Or.inl ⟨by kernel_rfl, ?_⟩) ⟨(hb2.cell (cell_lt c0)).trans c0, (hb2.cell (cell_lt c1)).trans c1, (hb2.cell (cell_lt c2)).trans c2, (hb2.cell (cell_lt c3)).trans c3, (hb2.cell (cell_lt d0)).trans d0, (hb2.cell (cell_lt d1)).trans d1⟩ ?_
            rotate_left
            · (rintro w ⟨s0, s1, s2, s3, s4, s5⟩; go_simp; (first | done | rfl))
            try simp only [Act.put, List.getElem_toArray, List.getElem_cons_zero, List.getElem_cons_succ, List.setIfInBounds_toArray, List.set_cons_zero, List.set_cons_succ]
            refine wpAnyH_take (i := 11) (oi := _) (v := ?_) rfl (by kernel_rfl) (by kernel_rfl) (by kernel_rfl) (fun _ _ _ h => h) (Or.inl ⟨by kernel_rfl, ?_⟩) ⟨(hb2.cell (cell_lt c0)).trans c0, (hb2.cell (cell_lt c1)).trans c1, (hb2.cell (cell_lt c2)).trans c2, (hb2.cell (cell_lt c3)).trans c3, (hb2.cell (cell_lt d0)).trans d0, (hb2.cell (cell_lt d1)).trans d1⟩ ?_
            rotate_left
            · (rintro w ⟨s0, s1, s2, s3, s4, s5⟩; go_simp; (first | done | rfl))
            try simp only [Act.put, List.getElem_toArray, List.getElem_cons_zero, List.getElem_cons_succ, List.setIfInBounds_toArray, List.set_cons_zero, List.set_cons_succ]
            refine wpAnyH_take (i := 12) (oi := _) (v := ?_) rfl (by kernel_rfl) (by kernel_rfl) (by kernel_rfl) (fun _ _ _ h => h) (Or.inl ⟨by kernel_rfl, ?_⟩) ⟨(hb2.cell (cell_lt c0)).trans c0, (hb2.cell (cell_lt c1)).trans c1, (hb2.cell (cell_lt c2)).trans c2, (hb2.cell (cell_lt c3)).trans c3, (hb2.cell (cell_lt d0)).trans d0, (hb2.cell (cell_lt d1)).trans d1⟩ ?_
            rotate_left
            · (rintro w ⟨s0, s1, s2, s3, s4, s5⟩; go_simp; (first | done | rfl))
            try simp only [Act.put, List.getElem_toArray, List.getElem_cons_zero, List.getElem_cons_succ, List.setIfInBounds_toArray, List.set_cons_zero, List.set_cons_succ]
            refine wpAnyH_take (i := 13) (oi := _) (v := ?_) rfl (by kernel_rfl) (by kernel_rfl) (by kernel_rfl) (fun _ _ _ h => h) (Or.inl ⟨by kernel_rfl, ?_⟩) ⟨(hb2.cell (cell_lt c0)).trans c0, (hb2.cell (cell_lt c1)).trans c1, (hb2.cell (cell_lt c2)).trans c2, (hb2.cell (cell_lt c3)).trans c3, (hb2.cell (cell_lt d0)).trans d0, (hb2.cell (cell_lt d1)).trans d1⟩ ?_
            rotate_left
            · (rintro w ⟨s0, s1, s2, s3, s4, s5⟩; go_simp; (first | done | rfl))
            try simp only [Act.put, List.getElem_toArray, List.getElem_cons_zero, List.getElem_cons_succ, List.setIfInBounds_toArray, List.set_cons_zero, List.set_cons_succ]
            refine wpAnyH_take (i := 14) (oi := _) (v := ?_) rfl (by kernel_rfl) (by kernel_rfl) (by kernel_rfl) (fun _ _ _ h => h) (Or.inl ⟨by kernel_rfl, ?_⟩) ⟨(hb2.cell (cell_lt c0)).trans c0, (hb2.cell (cell_lt c1)).trans c1, (hb2.cell (cell_lt c2)).trans c2, (hb2.cell (cell_lt c3)).trans c3, (hb2.cell (cell_lt d0)).trans d0, (hb2.cell (cell_lt d1)).trans d1⟩ ?_
            rotate_left
            · (rintro w ⟨s0, s1, s2, s3, s4, s5⟩; go_simp; (first | done | rfl))
            try simp only [Act.put, List.getElem_toArray, List.getElem_cons_zero, List.getElem_cons_succ, List.setIfInBounds_toArray, List.set_cons_zero, List.set_cons_succ]
            refine wpAnyH_take (i := 15) (oi := _) (v := ?_) rfl (by kernel_rfl) (by kernel_rfl) (by kernel_rfl) (fun _ _ _ h => h) (Or.inl ⟨by kernel_rfl, ?_⟩) ⟨(hb2.cell (cell_lt c0)).trans c0, (hb2.cell (cell_lt c1)).trans c1, (hb2.cell (cell_lt c2)).trans c2, (hb2.cell (cell_lt c3)).trans c3, (hb2.cell (cell_lt d0)).trans d0, (hb2.cell (cell_lt d1)).trans d1⟩ ?_
            rotate_left
            · (rintro w ⟨s0, s1, s2, s3, s4, s5⟩; go_simp; (first | done | rfl))
            try simp only [Act.put, List.getElem_toArray, List.getElem_cons_zero, List.getElem_cons_succ, List.setIfInBounds_toArray, List.set_cons_zero, List.set_cons_succ]
            refine wpAnyH_take (i := 16) (oi := _) (v := ?_) rfl (by kernel_rfl) (by kernel_rfl) (by kernel_rfl) (fun _ _ _ h => h) (Or.inl ⟨by kernel_rfl, ?_⟩) ⟨(hb2.cell (cell_lt c0)).trans c0, (hb2.cell (cell_lt c1)).trans c1, (hb2.cell (cell_lt c2)).trans c2, (hb2.cell (cell_lt c3)).trans c3, (hb2.cell (cell_lt d0)).trans d0, (hb2.cell (cell_lt d1)).trans d1⟩ ?_
            rotate_left
            · (rintro w ⟨s0, s1, s2, s3, s4, s5⟩; go_simp; (first | done | rfl))
            try simp only [Act.put, List.getElem_toArray, List.getElem_cons_zero, List.getElem_cons_succ, List.setIfInBounds_toArray, List.set_cons_zero, List.set_cons_succ]
            refine wpAnyH_take (i := 17) (oi := _) (v := ?_) rfl (by kernel_rfl) (by kernel_rfl) (by kernel_rfl) (fun _ _ _ h => h) (Or.inl ⟨by kernel_rfl, ?_⟩) ⟨(hb2.cell (cell_lt c0)).trans c0, (hb2.cell (cell_lt c1)).trans c1, (hb2.cell (cell_lt c2)).trans c2, (hb2.cell (cell_lt c3)).trans c3, (hb2.cell (cell_lt d0)).trans d0, (hb2.cell (cell_lt d1)).trans d1⟩ ?_
            rotate_left
            · (rintro w ⟨s0, s1, s2, s3, s4, s5⟩; go_simp; (first | done | rfl))
            try simp only [Act.put, List.getElem_toArray, List.getElem_cons_zero, List.getElem_cons_succ, List.setIfInBounds_toArray, List.set_cons_zero, List.set_cons_succ]
            refine wpAnyH_take (i := 18) (oi := _) (v := ?_) rfl (by kernel_rfl) (by kernel_rfl) (by kernel_rfl) (fun _ _ _ h => h) (Or.inl ⟨by kernel_rfl, ?_⟩) ⟨(hb2.cell (cell_lt c0)).trans c0, (hb2.cell (cell_lt c1)).trans c1, (hb2.cell (cell_lt c2)).trans c2, (hb2.cell (cell_lt c3)).trans c3, (hb2.cell (cell_lt d0)).trans d0, (hb2.cell (cell_lt d1)).trans d1⟩ ?_
            rotate_left
            · (rintro w ⟨s0, s1, s2, s3, s4, s5⟩; go_simp; (first | done | rfl))
            try simp only [Act.put, List.getElem_toArray, List.getElem_cons_zero, List.getElem_cons_succ, List.setIfInBounds_toArray, List.set_cons_zero, List.set_cons_succ]
            refine wpAnyH_take (i := 19) (oi := _) (v := ?_) rfl (by kernel_rfl) (by kernel_rfl) (by kernel_rfl) (fun _ _ _ h => h) (Or.inl ⟨by kernel_rfl, ?_⟩) ⟨(hb2.cell (cell_lt c0)).trans c0, (hb2.cell (cell_lt c1)).trans c1, (hb2.cell (cell_lt c2)).trans c2, (hb2.cell (cell_lt c3)).trans c3, (hb2.cell (cell_lt d0)).trans d0, (hb2.cell (cell_lt d1)).trans d1⟩ ?_
            rotate_left
            · (rintro w ⟨s0, s1, s2, s3, s4, s5⟩; go_simp; (first | done | rfl))
            try simp only [Act.put, List.getElem_toArray, List.getElem_cons_zero, List.getElem_cons_succ, List.setIfInBounds_toArray, List.set_cons_zero, List.set_cons_succ]
            refine wpAnyH_take (i := 20) (oi := _) (v := ?_) rfl (by kernel_rfl) (by kernel_rfl) (by kernel_rfl) (fun _ _ _ h => h) (Or.inl ⟨by kernel_rfl, ?_⟩) ⟨(hb2.cell (cell_lt c0)).trans c0, (hb2.cell (cell_lt c1)).trans c1, (hb2.cell (cell_lt c2)).trans c2, (hb2.cell (cell_lt c3)).trans c3, (hb2.cell (cell_lt d0)).trans d0, (hb2.cell (cell_lt d1)).trans d1⟩ ?_
            rotate_left
            · (rintro w ⟨s0, s1, s2, s3, s4, s5⟩; go_simp; (first | done | rfl))
            try simp only [Act.put, List.getElem_toArray, List.getElem_cons_zero, List.getElem_cons_succ, List.setIfInBounds_toArray, List.set_cons_zero, List.set_cons_succ]
            refine wpAnyH_take (i := 21) (oi := _) (v := ?_) rfl (by kernel_rfl) (by kernel_rfl) (by kernel_rfl) (fun _ _ _ h => h) (Or.inl ⟨by kernel_rfl, ?_⟩) ⟨(hb2.cell (cell_lt c0)).trans c0, (hb2.cell (cell_lt c1)).trans c1, (hb2.cell (cell_lt c2)).trans c2, (hb2.cell (cell_lt c3)).trans c3, (hb2.cell (cell_lt d0)).trans d0, (hb2.cell (cell_lt d1)).trans d1⟩ ?_
            rotate_left
            · (rintro w ⟨s0, s1, s2, s3, s4, s5⟩; go_simp; (first | done | rfl))
            try simp only [Act.put, List.getElem_toArray, List.getElem_cons_zero, List.getElem_cons_succ, List.setIfInBounds_toArray, List.set_cons_zero, List.set_cons_succ]
            refine wpAnyH_take (i := 22) (oi := _) (v := ?_) rfl (by kernel_rfl) (by kernel_rfl) (by kernel_rfl) (fun _ _ _ h => h) (Or.inl ⟨by kernel_rfl, ?_⟩) ⟨(hb2.cell (cell_lt c0)).trans c0, (hb2.cell (cell_lt c1)).trans c1, (hb2.cell (cell_lt c2)).trans c2, (hb2.cell (cell_lt c3)).trans c3, (hb2.cell (cell_lt d0)).trans d0, (hb2.cell (cell_lt d1)).trans d1⟩ ?_
            rotate_left
            · (rintro w ⟨s0, s1, s2, s3, s4, s5⟩; go_simp; (first | done | rfl))
            try simp only [Act.put, List.getElem_toArray, List.getElem_cons_zero, List.getElem_cons_succ, List.setIfInBounds_toArray, List.set_cons_zero, List.set_cons_succ]
            refine wpAnyH_take (i := 23) (oi := _) (v := ?_) rfl (by kernel_rfl) (by kernel_rfl) (by kernel_rfl) (fun _ _ _ h => h) (Or.inl ⟨by kernel_rfl, ?_⟩) ⟨(hb2.cell (cell_lt c0)).trans c0, (hb2.cell (cell_lt c1)).trans c1, (hb2.cell (cell_lt c2)).trans c2, (hb2.cell (cell_lt c3)).trans c3, (hb2.cell (cell_lt d0)).trans d0, (hb2.cell (cell_lt d1)).trans d1⟩ ?_
            rotate_left
            · (rintro w ⟨s0, s1, s2, s3, s4, s5⟩; go_simp; (first | done | rfl))
            try simp only [Act.put, List.getElem_toArray, List.getElem_cons_zero, List.getElem_cons_succ, List.setIfInBounds_toArray, List.set_cons_zero, List.set_cons_succ]
            refine wpAnyH_take (i := 24) (oi := _) (v := ?_) rfl (by kernel_rfl) (by kernel_rfl) (by kernel_rfl) (fun _ _ _ h => h) (Or.inl ⟨by kernel_rfl, ?_⟩) ⟨(hb2.cell (cell_lt c0)).trans c0, (hb2.cell (cell_lt c1)).trans c1, (hb2.cell (cell_lt c2)).trans c2, (hb2.cell (cell_lt c3)).trans c3, (hb2.cell (cell_lt d0)).trans d0, (hb2.cell (cell_lt d1)).trans d1⟩ ?_
            rotate_left
            · (rintro w ⟨s0, s1, s2, s3, s4, s5⟩; go_simp; (first | done | rfl))
            try simp only [Act.put, List.getElem_toArray, List.getElem_cons_zero, List.getElem_cons_succ, List.setIfInBounds_toArray, List.set_cons_zero, List.set_cons_succ]
            refine wpAnyH_take (i := 25) (oi := _) (v := ?_) rfl (by kernel_rfl) (by kernel_rfl) (by kernel_rfl) (fun _ _ _ h => h) (Or.inl ⟨by kernel_rfl, ?_⟩) ⟨(hb2.cell (cell_lt c0)).trans c0, (hb2.cell (cell_lt c1)).trans c1, (hb2.cell (cell_lt c2)).trans c2, (hb2.cell (cell_lt c3)).trans c3, (hb2.cell (cell_lt d0)).trans d0, (hb2.cell (cell_lt d1)).trans d1⟩ ?_
            rotate_left
            · (rintro w ⟨s0, s1, s2, s3, s4, s5⟩; go_simp; (first | done | rfl))
            try simp only [Act.put, List.getElem_toArray, List.getElem_cons_zero, List.getElem_cons_succ, List.setIfInBounds_toArray, List.set_cons_zero, List.set_cons_succ]
            refine wpAnyH_take (i := 26) (oi := _) (v := ?_) rfl (by kernel_rfl) (by kernel_rfl) (by kernel_rfl) (fun _ _ _ h => h) (Or.inl ⟨by kernel_rfl, ?_⟩) ⟨(hb2.cell (cell_lt c0)).trans c0, (hb2.cell (cell_lt c1)).trans c1, (hb2.cell (cell_lt c2)).trans c2, (hb2.cell (cell_lt c3)).trans c3, (hb2.cell (cell_lt d0)).trans d0, (hb2.cell (cell_lt d1)).trans d1⟩ ?_
            rotate_left
            · (rintro w ⟨s0, s1, s2, s3, s4, s5⟩; go_simp; (first | done | rfl))
            try simp only [Act.put, List.getElem_toArray, List.getElem_cons_zero, List.getElem_cons_succ, List.setIfInBounds_toArray, List.set_cons_zero, List.set_cons_succ]
            refine wpAnyH_take (i := 27) (oi := _) (v := ?_) rfl (by kernel_rfl) (by kernel_rfl) (by kernel_rfl) (fun _ _ _ h => h) (Or.inl ⟨by kernel_rfl, ?_⟩) ⟨(hb2.cell (cell_lt c0)).trans c0, (hb2.cell (cell_lt c1)).trans c1, (hb2.cell (cell_lt c2)).trans c2, (hb2.cell (cell_lt c3)).trans c3, (hb2.cell (cell_lt d0)).trans d0, (hb2.cell (cell_lt d1)).trans d1⟩ ?_
            rotate_left
            · (rintro w ⟨s0, s1, s2, s3, s4, s5⟩; go_simp; (first | done | rfl))
            try simp only [Act.put, List.getElem_toArray, List.getElem_cons_zero, List.getElem_cons_succ, List.setIfInBounds_toArray, List.set_cons_zero, List.set_cons_succ]
            refine wpAnyH_take (i := 28) (oi := _) (v := ?_) rfl (by kernel_rfl) (by kernel_rfl) (by kernel_rfl) (fun _ _ _ h => h) (Or.inl ⟨by kernel_rfl, ?_⟩) ⟨(hb2.cell (cell_lt c0)).trans c0, (hb2.cell (cell_lt c1)).trans c1, (hb2.cell (cell_lt c2)).trans c2, (hb2.cell (cell_lt c3)).trans c3, (hb2.cell (cell_lt d0)).trans d0, (hb2.cell (cell_lt d1)).trans d1⟩ ?_
            rotate_left
            · (rintro w ⟨s0, s1, s2, s3, s4, s5⟩; go_simp; (first | done | rfl))
            try simp only [Act.put, List.getElem_toArray, List.getElem_cons_zero, List.getElem_cons_succ, List.setIfInBounds_toArray, List.set_cons_zero, List.set_cons_succ]
            refine wpAnyH_take (i := 29) (oi := _) (v := ?_) rfl (by kernel_rfl) (by kernel_rfl) (by kernel_rfl) (fun _ _ _ h => h) (Or.inl ⟨by kernel_rfl, ?_⟩) ⟨(hb2.cell (cell_lt c0)).trans c0, (hb2.cell (cell_lt c1)).trans c1, (hb2.cell (cell_lt c2)).trans c2, (hb2.cell (cell_lt c3)).trans c3, (hb2.cell (cell_lt d0)).trans d0, (hb2.cell (cell_lt d1)).trans d1⟩ ?_
            rotate_left
            · (rintro w ⟨s0, s1, s2, s3, s4, s5⟩; go_simp; (first | done | rfl))
            try simp only [Act.put, List.getElem_toArray, List.getElem_cons_zero, List.getElem_cons_succ, List.setIfInBounds_toArray, List.set_cons_zero, List.set_cons_succ]
            refine wpAnyH_take (i := 30) (oi := _) (v := ?_) rfl (by kernel_rfl) (by kernel_rfl) (by kernel_rfl) (fun _ _ _ h => h) (Or.inl ⟨by kernel_rfl, ?_⟩) ⟨(hb2.cell (cell_lt c0)).trans c0, (hb2.cell (cell_lt c1)).trans c1, (hb2.cell (cell_lt c2)).trans c2, (hb2.cell (cell_lt c3)).trans c3, (hb2.cell (cell_lt d0)).trans d0, (hb2.cell (cell_lt d1)).trans d1⟩ ?_
            rotate_left
            · (rintro w ⟨s0, s1, s2, s3, s4, s5⟩; go_simp; (first | done | rfl))
            try simp only [Act.put, List.getElem_toArray, List.getElem_cons_zero, List.getElem_cons_succ, List.setIfInBounds_toArray, List.set_cons_zero, List.set_cons_succ]
            refine wpAnyH_done (by kernel_rfl) ?_ _
            refine NoPanic.normal ?_
            go_wp2
            go_roundw
            case rel => exact ⟨k + 1, x.off + x.len, by omega, by go_num, ⟨by omega, by omega, fun e => by omega, fun m' e => ⟨x, by rw [show m' = k by omega]; exact hx, hm, rfl⟩⟩, HL.out, below_step hb (below_undrew hb2) (Nat.le_refl _)⟩
            case measure => simp [intOf]; omega
    · have hin : (n : Int) ≤ (k : Int) := by omega
      have hd : l.drop k = [] := list_done Hl.out (by omega)
      rw [hd] at hL
      have HB := Lib.hid hL
      clear hL hd
      go_wp2
      go_ret
      rw [← HB.out]
      exact ⟨rfl, hb⟩
end
end Go.Proofs.Ytfdfjnepfgabaaa
