/- DeltaOps: whether any list has grown from any other one, what is young, and the ops, are the document's, or refused: for every input. -/
import Derived.Test.YtfdfjnepfgabaaaDelX
set_option linter.all false
namespace Go.Proofs.Ytfdfjnepfgabaaa
open Go.ChangeShapes Go.WideShapes Go.ChangeAt Go.RowKit

set_option maxRecDepth 100000 in
set_option maxHeartbeats 2000000 in
theorem deltaOps_walk (w : World) (A B : Option Addr) (n c m d : Nat) (a b : List Ext) (ha : Es w A n a) (hn : n ≤ 9223372036854775807) (hb : Es w B m b) (hm : m ≤ 9223372036854775807) (gen : Int) (hz : I64 gen) (U : Option Addr) (k dd : Nat) (u : List Nat) (hu : Ns w U k u) (hk : k ≤ 9223372036854775807) :
    Calls Try.prog 4 #[.agg #[.slice A n c, .slice B m d], .int .i64 gen, .slice U k dd] w fun e w' => e = .returned (.bool true) ∧ Below w.heap.size w w' := by
  have hx1 : Below w.heap.size w (w.alloc (.cells #[.slice A n c, .slice B m d] 33)) := (Below.refl _ _).alloc (Nat.le_refl _) _
  have k1 := Blk.new w 33 #[.slice A n c, .slice B m d] rfl
  have c0 := k1.cell (j := 0) (u := .slice A n c) rfl
  have c1 := k1.cell (j := 1) (u := .slice B m d) rfl
  obtain ⟨er, her⟩ : ∃ x, yoE a b = x := ⟨_, rfl⟩
  obtain ⟨pl, hpl⟩ : ∃ x, yoL a b gen = x := ⟨_, rfl⟩
  obtain ⟨ol, hol⟩ : ∃ x, opL a b gen u = x := ⟨_, rfl⟩
  obtain ⟨gr, hgr⟩ : ∃ x, grB a b gen = x := ⟨_, rfl⟩
  have Her := Lib.hid her
  have Hpl := Lib.hid hpl
  have Hol := Lib.hid hol
  have Hgr := Lib.hid hgr
  clear her hpl hol hgr
  go_enter Try.func4, Try.ntmps4
  go_wp2_with fail
  refine (Young_ _ A B n c m d a b gen (ha.below hx1) (hb.below hx1) hn hm).mono ?_
  rw [Her.out, Hpl.out]
  rintro e w2 ⟨A2, m2, c2, rfl, hP2, hb2⟩
  have hB2 := below_step hx1 hb2 (Nat.le_refl _)
  have k2 := k1.keep hb2
  have c0 := k2.cell (j := 0) (u := .slice A n c) rfl
  have c1 := k2.cell (j := 1) (u := .slice B m d) rfl
  clear k1 hb2 hx1
  go_wp2_with fail
  refine (rYoung_ _ A B n c m d a b gen (ha.below hB2) (hb.below hB2) hn hm).mono ?_
  rw [Her.out, Hpl.out]
  rintro e w3 ⟨A3, m3, c3, rfl, hP3, hb3⟩
  have hB3 := below_step hB2 hb3 (Nat.le_refl _)
  have k3 := k2.keep hb3
  have hP2' := own_keep hP2 hb3
  have c0 := k3.cell (j := 0) (u := .slice A n c) rfl
  have c1 := k3.cell (j := 1) (u := .slice B m d) rfl
  clear k2 hb3 hB2 hP2
  go_wp2_with fail
  refine (Ops_ _ A B n c m d a b gen U k dd u (ha.below hB3) (hb.below hB3) hn hm (hu.below hB3) hk).mono ?_
  rw [Her.out, Hol.out]
  rintro e w4 ⟨A4, m4, c4, rfl, hG4, hb4⟩
  have hB4 := below_step hB3 hb4 (Nat.le_refl _)
  have k4 := k3.keep hb4
  have hP2 := own_keep hP2' hb4
  have hP3' := own_keep hP3 hb4
  have c0 := k4.cell (j := 0) (u := .slice A n c) rfl
  have c1 := k4.cell (j := 1) (u := .slice B m d) rfl
  clear k3 hb4 hB3 hP2' hP3
  go_wp2_with fail
  refine (rOps_ _ A B n c m d a b gen U k dd u (ha.below hB4) (hb.below hB4) hn hm (hu.below hB4) hk).mono ?_
  rw [Her.out, Hol.out]
  rintro e w5 ⟨A5, m5, c5, rfl, hG5, hb5⟩
  have hB5 := below_step hB4 hb5 (Nat.le_refl _)
  have k5 := k4.keep hb5
  have hP2' := own_keep hP2 hb5
  have hP3 := own_keep hP3' hb5
  have hG4' := hG4.keep hb5
  have c0 := k5.cell (j := 0) (u := .slice A n c) rfl
  have c1 := k5.cell (j := 1) (u := .slice B m d) rfl
  clear k4 hb5 hB4 hP2 hP3' hG4
  have hag5 := ha.below hB5
  have hbg5 := hb.below hB5
  have hr2 := rd_own hP2'
  have hr3 := rd_own hP3
  have ho4 := hG4'.os
  have ho5 := hG5.os
  have hm4 : m4 ≤ 9223372036854775807 := by have := hG4'.bounds; omega
  have hm2 : m2 ≤ 9223372036854775807 := by
    obtain ⟨_, _, _, h1, h2, _⟩ := own_form hP2'
    have : c2 = c2 := rfl
    unfold maxLen at h2
    omega
  go_wp2_with fail
  refine wp_region_noPanic ?_
  refine wp_region_held_drew (S := (fun w' => w'.cell? ⟨w.heap.size, 0, none⟩ = some (.slice A n c) ∧ w'.cell? ⟨w.heap.size, 1, none⟩ = some (.slice B m d))) (by kernel_rfl) ⟨c0, c1⟩ (fun _ => ?_)
  refine wpAnyH_take (i := 0) (oi := _) (v := ?_) rfl (by kernel_rfl) (by kernel_rfl) (by kernel_rfl) (fun _ _ _ h => h) (Or.inl ⟨by kernel_rfl, ?_⟩) ⟨c0, c1⟩ ?_
  rotate_left
  · (rintro w ⟨z0, z1⟩; go_simp; (first | done | rfl))
  try simp only [Act.put, List.getElem_toArray, List.getElem_cons_zero, List.getElem_cons_succ, List.setIfInBounds_toArray, List.set_cons_zero, List.set_cons_succ]
  refine wpAnyH_take (i := 1) (oi := _) (v := ?_) rfl (by kernel_rfl) (by kernel_rfl) (by kernel_rfl) (fun _ _ _ h => h) (Or.inl ⟨by kernel_rfl, ?_⟩) ⟨c0, c1⟩ ?_
  rotate_left
  · (rintro w ⟨z0, z1⟩; go_simp; (first | done | rfl))
  try simp only [Act.put, List.getElem_toArray, List.getElem_cons_zero, List.getElem_cons_succ, List.setIfInBounds_toArray, List.set_cons_zero, List.set_cons_succ]
  refine wpAnyH_take (i := 2) (oi := _) (v := ?_) rfl (by kernel_rfl) (by kernel_rfl) (by kernel_rfl) (fun _ _ _ h => h) (Or.inl ⟨by kernel_rfl, ?_⟩) ⟨c0, c1⟩ ?_
  rotate_left
  · (rintro w ⟨z0, z1⟩; go_simp; (first | done | rfl))
  try simp only [Act.put, List.getElem_toArray, List.getElem_cons_zero, List.getElem_cons_succ, List.setIfInBounds_toArray, List.set_cons_zero, List.set_cons_succ]
  refine wpAnyH_take (i := 3) (oi := _) (v := ?_) rfl (by kernel_rfl) (by kernel_rfl) (by kernel_rfl) (fun _ _ _ h => h) (Or.inl ⟨by kernel_rfl, ?_⟩) ⟨c0, c1⟩ ?_
  rotate_left
  · (rintro w ⟨z0, z1⟩; go_simp; (first | done | rfl))
  try simp only [Act.put, List.getElem_toArray, List.getElem_cons_zero, List.getElem_cons_succ, List.setIfInBounds_toArray, List.set_cons_zero, List.set_cons_succ]
  refine wpAnyH_take (i := 4) (oi := _) (v := ?_) rfl (by kernel_rfl) (by kernel_rfl) (by kernel_rfl) (fun _ _ _ h => h) (Or.inl ⟨by kernel_rfl, ?_⟩) ⟨c0, c1⟩ ?_
  rotate_left
  · (rintro w ⟨z0, z1⟩; go_simp; (first | done | rfl))
  try simp only [Act.put, List.getElem_toArray, List.getElem_cons_zero, List.getElem_cons_succ, List.setIfInBounds_toArray, List.set_cons_zero, List.set_cons_succ]
  refine wpAnyH_take (i := 6) (oi := _) (v := ?_) rfl (by kernel_rfl) (by kernel_rfl) (by kernel_rfl) (fun _ _ _ h => h) (Or.inl ⟨by kernel_rfl, ?_⟩) ⟨c0, c1⟩ ?_
  rotate_left
  · (rintro w ⟨z0, z1⟩; go_simp; (first | done | rfl))
  try simp only [Act.put, List.getElem_toArray, List.getElem_cons_zero, List.getElem_cons_succ, List.setIfInBounds_toArray, List.set_cons_zero, List.set_cons_succ]
  refine wpAnyH_take (i := 7) (oi := _) (v := ?_) rfl (by kernel_rfl) (by kernel_rfl) (by kernel_rfl) (fun _ _ _ h => h) (Or.inl ⟨by kernel_rfl, ?_⟩) ⟨c0, c1⟩ ?_
  rotate_left
  · (rintro w ⟨z0, z1⟩; go_simp; (first | done | rfl))
  try simp only [Act.put, List.getElem_toArray, List.getElem_cons_zero, List.getElem_cons_succ, List.setIfInBounds_toArray, List.set_cons_zero, List.set_cons_succ]
  refine wpAnyH_take (i := 8) (oi := _) (v := ?_) rfl (by kernel_rfl) (by kernel_rfl) (by kernel_rfl) (fun _ _ _ h => h) (Or.inl ⟨by kernel_rfl, ?_⟩) ⟨c0, c1⟩ ?_
  rotate_left
  · (rintro w ⟨z0, z1⟩; go_simp; (first | done | rfl))
  try simp only [Act.put, List.getElem_toArray, List.getElem_cons_zero, List.getElem_cons_succ, List.setIfInBounds_toArray, List.set_cons_zero, List.set_cons_succ]
  refine wpAnyH_take (i := 9) (oi := _) (v := ?_) rfl (by kernel_rfl) (by kernel_rfl) (by kernel_rfl) (fun _ _ _ h => h) (Or.inl ⟨by kernel_rfl, ?_⟩) ⟨c0, c1⟩ ?_
  rotate_left
  · (rintro w ⟨z0, z1⟩; go_simp; (first | done | rfl))
  try simp only [Act.put, List.getElem_toArray, List.getElem_cons_zero, List.getElem_cons_succ, List.setIfInBounds_toArray, List.set_cons_zero, List.set_cons_succ]
  refine wpAnyH_take (i := 10) (oi := _) (v := ?_) rfl (by kernel_rfl) (by kernel_rfl) (by kernel_rfl) (fun _ _ _ h => h) (Or.inl ⟨by kernel_rfl, ?_⟩) ⟨c0, c1⟩ ?_
  rotate_left
  · (rintro w ⟨z0, z1⟩; go_simp; (first | done | rfl))
  try simp only [Act.put, List.getElem_toArray, List.getElem_cons_zero, List.getElem_cons_succ, List.setIfInBounds_toArray, List.set_cons_zero, List.set_cons_succ]
  refine wpAnyH_ready (rs := [5]) (by kernel_rfl) (by simp) (AllReadyH.cons (o := _) rfl (fun K hK => ?_) AllReadyH.nil)
  rw [if_pos (by kernel_rfl)]
  refine wp_fn 17 _ _ rfl _ rfl enters_Grown (Grown_ _ A B n c m d a b gen (hag5.below (below_undrew (Below.refl _ _))) (hbg5.below (below_undrew (Below.refl _ _))) hn hm) ?_
  rintro e w6 ⟨rfl, hb6⟩
  have hC6 : Below w5.heap.size w5 w6 := below_undrew hb6
  refine ⟨_, rfl, ?_⟩
  refine hK.out _ _ ⟨(k5.keep hC6).cell (j := 0) rfl, (k5.keep hC6).cell (j := 1) rfl⟩ (fun _ => ?_)
  clear hK K
  try simp only [Act.put, List.getElem_toArray, List.getElem_cons_zero, List.getElem_cons_succ, List.setIfInBounds_toArray, List.set_cons_zero, List.set_cons_succ]
  refine wpAnyH_ready (rs := [11]) (by kernel_rfl) (by simp) (AllReadyH.cons (o := _) rfl (fun K hK => ?_) AllReadyH.nil)
  rw [if_pos (by kernel_rfl)]
  refine wp_fn 18 _ _ rfl _ rfl enters_rGrown (rGrown_ _ A B n c m d a b gen (hag5.below hC6) (hbg5.below hC6) hn hm) ?_
  rintro e w7 ⟨rfl, hb7⟩
  have hC7 : Below w5.heap.size w5 w7 := below_step hC6 hb7 (Nat.le_refl _)
  refine ⟨_, rfl, ?_⟩
  refine hK.out _ _ ⟨(k5.keep hC7).cell (j := 0) rfl, (k5.keep hC7).cell (j := 1) rfl⟩ (fun _ => ?_)
  clear hK K
  try simp only [Act.put, List.getElem_toArray, List.getElem_cons_zero, List.getElem_cons_succ, List.setIfInBounds_toArray, List.set_cons_zero, List.set_cons_succ]
  refine wpAnyH_take (i := 12) (oi := _) (v := ?_) rfl (by kernel_rfl) (by kernel_rfl) (by kernel_rfl) (fun _ _ _ h => h) (Or.inl ⟨by kernel_rfl, ?_⟩) ⟨(k5.keep hC7).cell (j := 0) rfl, (k5.keep hC7).cell (j := 1) rfl⟩ ?_
  rotate_left
  · (rintro w ⟨z0, z1⟩; go_simp; (first | done | rfl))
  try simp only [Act.put, List.getElem_toArray, List.getElem_cons_zero, List.getElem_cons_succ, List.setIfInBounds_toArray, List.set_cons_zero, List.set_cons_succ]
  refine wpAnyH_take (i := 13) (oi := _) (v := ?_) rfl (by kernel_rfl) (by kernel_rfl) (by kernel_rfl) (fun _ _ _ h => h) (Or.inl ⟨by kernel_rfl, ?_⟩) ⟨(k5.keep hC7).cell (j := 0) rfl, (k5.keep hC7).cell (j := 1) rfl⟩ ?_
  rotate_left
  · (rintro w ⟨z0, z1⟩; go_simp; (first | done | rfl))
  try simp only [Act.put, List.getElem_toArray, List.getElem_cons_zero, List.getElem_cons_succ, List.setIfInBounds_toArray, List.set_cons_zero, List.set_cons_succ]
  refine wpAnyH_take (i := 14) (oi := _) (v := ?_) rfl (by kernel_rfl) (by kernel_rfl) (by kernel_rfl) (fun _ _ _ h => h) (Or.inl ⟨by kernel_rfl, ?_⟩) ⟨(k5.keep hC7).cell (j := 0) rfl, (k5.keep hC7).cell (j := 1) rfl⟩ ?_
  rotate_left
  · (rintro w ⟨z0, z1⟩; go_simp; (first | done | rfl))
  try simp only [Act.put, List.getElem_toArray, List.getElem_cons_zero, List.getElem_cons_succ, List.setIfInBounds_toArray, List.set_cons_zero, List.set_cons_succ]
  refine wpAnyH_take (i := 15) (oi := _) (v := ?_) rfl (by kernel_rfl) (by kernel_rfl) (by kernel_rfl) (fun _ _ _ h => h) (Or.inl ⟨by kernel_rfl, ?_⟩) ⟨(k5.keep hC7).cell (j := 0) rfl, (k5.keep hC7).cell (j := 1) rfl⟩ ?_
  rotate_left
  · (rintro w ⟨z0, z1⟩; go_simp; (first | done | rfl))
  try simp only [Act.put, List.getElem_toArray, List.getElem_cons_zero, List.getElem_cons_succ, List.setIfInBounds_toArray, List.set_cons_zero, List.set_cons_succ]
  refine wpAnyH_ready (rs := [16]) (by kernel_rfl) (by simp) (AllReadyH.cons (o := _) rfl (fun K hK => ?_) AllReadyH.nil)
  rw [if_pos (by kernel_rfl)]
  refine wp_fn 19 _ _ rfl _ rfl enters_rsame (rsameB _ A2 A3 m2 m3 c2 c3 pl (hr2.below hC7) (hr3.below hC7) hm2) ?_
  rintro e w8 ⟨rfl, hb8⟩
  have hC8 : Below w5.heap.size w5 w8 := below_step hC7 hb8 (Nat.le_refl _)
  refine ⟨_, rfl, ?_⟩
  refine hK.out _ _ ⟨(k5.keep hC8).cell (j := 0) rfl, (k5.keep hC8).cell (j := 1) rfl⟩ (fun _ => ?_)
  clear hK K
  try simp only [Act.put, List.getElem_toArray, List.getElem_cons_zero, List.getElem_cons_succ, List.setIfInBounds_toArray, List.set_cons_zero, List.set_cons_succ]
  refine wpAnyH_take (i := 17) (oi := _) (v := ?_) rfl (by kernel_rfl) (by kernel_rfl) (by kernel_rfl) (fun _ _ _ h => h) (Or.inl ⟨by kernel_rfl, ?_⟩) ⟨(k5.keep hC8).cell (j := 0) rfl, (k5.keep hC8).cell (j := 1) rfl⟩ ?_
  rotate_left
  · (rintro w ⟨z0, z1⟩; go_simp; (first | done | rfl))
  try simp only [Act.put, List.getElem_toArray, List.getElem_cons_zero, List.getElem_cons_succ, List.setIfInBounds_toArray, List.set_cons_zero, List.set_cons_succ]
  refine wpAnyH_take (i := 18) (oi := _) (v := ?_) rfl (by kernel_rfl) (by kernel_rfl) (by kernel_rfl) (fun _ _ _ h => h) (Or.inl ⟨by kernel_rfl, ?_⟩) ⟨(k5.keep hC8).cell (j := 0) rfl, (k5.keep hC8).cell (j := 1) rfl⟩ ?_
  rotate_left
  · (rintro w ⟨z0, z1⟩; go_simp; (first | done | rfl))
  try simp only [Act.put, List.getElem_toArray, List.getElem_cons_zero, List.getElem_cons_succ, List.setIfInBounds_toArray, List.set_cons_zero, List.set_cons_succ]
  refine wpAnyH_take (i := 19) (oi := _) (v := ?_) rfl (by kernel_rfl) (by kernel_rfl) (by kernel_rfl) (fun _ _ _ h => h) (Or.inl ⟨by kernel_rfl, ?_⟩) ⟨(k5.keep hC8).cell (j := 0) rfl, (k5.keep hC8).cell (j := 1) rfl⟩ ?_
  rotate_left
  · (rintro w ⟨z0, z1⟩; go_simp; (first | done | rfl))
  try simp only [Act.put, List.getElem_toArray, List.getElem_cons_zero, List.getElem_cons_succ, List.setIfInBounds_toArray, List.set_cons_zero, List.set_cons_succ]
  refine wpAnyH_take (i := 20) (oi := _) (v := ?_) rfl (by kernel_rfl) (by kernel_rfl) (by kernel_rfl) (fun _ _ _ h => h) (Or.inl ⟨by kernel_rfl, ?_⟩) ⟨(k5.keep hC8).cell (j := 0) rfl, (k5.keep hC8).cell (j := 1) rfl⟩ ?_
  rotate_left
  · (rintro w ⟨z0, z1⟩; go_simp; (first | done | rfl))
  try simp only [Act.put, List.getElem_toArray, List.getElem_cons_zero, List.getElem_cons_succ, List.setIfInBounds_toArray, List.set_cons_zero, List.set_cons_succ]
  refine wpAnyH_take (i := 21) (oi := _) (v := ?_) rfl (by kernel_rfl) (by kernel_rfl) (by kernel_rfl) (fun _ _ _ h => h) (Or.inl ⟨by kernel_rfl, ?_⟩) ⟨(k5.keep hC8).cell (j := 0) rfl, (k5.keep hC8).cell (j := 1) rfl⟩ ?_
  rotate_left
  · (rintro w ⟨z0, z1⟩; go_simp; (first | done | rfl))
  try simp only [Act.put, List.getElem_toArray, List.getElem_cons_zero, List.getElem_cons_succ, List.setIfInBounds_toArray, List.set_cons_zero, List.set_cons_succ]
  refine wpAnyH_take (i := 22) (oi := _) (v := ?_) rfl (by kernel_rfl) (by kernel_rfl) (by kernel_rfl) (fun _ _ _ h => h) (Or.inl ⟨by kernel_rfl, ?_⟩) ⟨(k5.keep hC8).cell (j := 0) rfl, (k5.keep hC8).cell (j := 1) rfl⟩ ?_
  rotate_left
  · (rintro w ⟨z0, z1⟩; go_simp; (first | done | rfl))
  try simp only [Act.put, List.getElem_toArray, List.getElem_cons_zero, List.getElem_cons_succ, List.setIfInBounds_toArray, List.set_cons_zero, List.set_cons_succ]
  refine wpAnyH_take (i := 23) (oi := _) (v := ?_) rfl (by kernel_rfl) (by kernel_rfl) (by kernel_rfl) (fun _ _ _ h => h) (Or.inl ⟨by kernel_rfl, ?_⟩) ⟨(k5.keep hC8).cell (j := 0) rfl, (k5.keep hC8).cell (j := 1) rfl⟩ ?_
  rotate_left
  · (rintro w ⟨z0, z1⟩; go_simp; (first | done | rfl))
  try simp only [Act.put, List.getElem_toArray, List.getElem_cons_zero, List.getElem_cons_succ, List.setIfInBounds_toArray, List.set_cons_zero, List.set_cons_succ]
  refine wpAnyH_take (i := 24) (oi := _) (v := ?_) rfl (by kernel_rfl) (by kernel_rfl) (by kernel_rfl) (fun _ _ _ h => h) (Or.inl ⟨by kernel_rfl, ?_⟩) ⟨(k5.keep hC8).cell (j := 0) rfl, (k5.keep hC8).cell (j := 1) rfl⟩ ?_
  rotate_left
  · (rintro w ⟨z0, z1⟩; go_simp; (first | done | rfl))
  try simp only [Act.put, List.getElem_toArray, List.getElem_cons_zero, List.getElem_cons_succ, List.setIfInBounds_toArray, List.set_cons_zero, List.set_cons_succ]
  refine wpAnyH_take (i := 25) (oi := _) (v := ?_) rfl (by kernel_rfl) (by kernel_rfl) (by kernel_rfl) (fun _ _ _ h => h) (Or.inl ⟨by kernel_rfl, ?_⟩) ⟨(k5.keep hC8).cell (j := 0) rfl, (k5.keep hC8).cell (j := 1) rfl⟩ ?_
  rotate_left
  · (rintro w ⟨z0, z1⟩; go_simp; (first | done | rfl))
  try simp only [Act.put, List.getElem_toArray, List.getElem_cons_zero, List.getElem_cons_succ, List.setIfInBounds_toArray, List.set_cons_zero, List.set_cons_succ]
  refine wpAnyH_ready (rs := [26]) (by kernel_rfl) (by simp) (AllReadyH.cons (o := _) rfl (fun K hK => ?_) AllReadyH.nil)
  rw [if_pos (by kernel_rfl)]
  refine wp_fn 20 _ _ rfl _ rfl enters_same (sameB _ A4 A5 m4 m5 c4 c5 ol (hG4'.keep hC8).os (hG5.keep hC8).os hm4) ?_
  rintro e w9 ⟨rfl, hb9⟩
  have hC9 : Below w5.heap.size w5 w9 := below_step hC8 hb9 (Nat.le_refl _)
  refine ⟨_, rfl, ?_⟩
  refine hK.out _ _ ⟨(k5.keep hC9).cell (j := 0) rfl, (k5.keep hC9).cell (j := 1) rfl⟩ (fun _ => ?_)
  clear hK K
  try simp only [Act.put, List.getElem_toArray, List.getElem_cons_zero, List.getElem_cons_succ, List.setIfInBounds_toArray, List.set_cons_zero, List.set_cons_succ]
  refine wpAnyH_take (i := 27) (oi := _) (v := ?_) rfl (by kernel_rfl) (by kernel_rfl) (by kernel_rfl) (fun _ _ _ h => h) (Or.inl ⟨by kernel_rfl, ?_⟩) ⟨(k5.keep hC9).cell (j := 0) rfl, (k5.keep hC9).cell (j := 1) rfl⟩ ?_
  rotate_left
  · (rintro w ⟨z0, z1⟩; go_simp; (first | done | rfl))
  try simp only [Act.put, List.getElem_toArray, List.getElem_cons_zero, List.getElem_cons_succ, List.setIfInBounds_toArray, List.set_cons_zero, List.set_cons_succ]
  refine wpAnyH_take (i := 28) (oi := _) (v := ?_) rfl (by kernel_rfl) (by kernel_rfl) (by kernel_rfl) (fun _ _ _ h => h) (Or.inl ⟨by kernel_rfl, ?_⟩) ⟨(k5.keep hC9).cell (j := 0) rfl, (k5.keep hC9).cell (j := 1) rfl⟩ ?_
  rotate_left
  · (rintro w ⟨z0, z1⟩; go_simp; (first | done | rfl))
  try simp only [Act.put, List.getElem_toArray, List.getElem_cons_zero, List.getElem_cons_succ, List.setIfInBounds_toArray, List.set_cons_zero, List.set_cons_succ]
  refine wpAnyH_take (i := 29) (oi := _) (v := ?_) rfl (by kernel_rfl) (by kernel_rfl) (by kernel_rfl) (fun _ _ _ h => h) (Or.inl ⟨by kernel_rfl, ?_⟩) ⟨(k5.keep hC9).cell (j := 0) rfl, (k5.keep hC9).cell (j := 1) rfl⟩ ?_
  rotate_left
  · (rintro w ⟨z0, z1⟩; go_simp; (first | done | rfl))
  try simp only [Act.put, List.getElem_toArray, List.getElem_cons_zero, List.getElem_cons_succ, List.setIfInBounds_toArray, List.set_cons_zero, List.set_cons_succ]
  refine wpAnyH_take (i := 30) (oi := _) (v := ?_) rfl (by kernel_rfl) (by kernel_rfl) (by kernel_rfl) (fun _ _ _ h => h) (Or.inl ⟨by kernel_rfl, ?_⟩) ⟨(k5.keep hC9).cell (j := 0) rfl, (k5.keep hC9).cell (j := 1) rfl⟩ ?_
  rotate_left
  · (rintro w ⟨z0, z1⟩; go_simp; (first | done | rfl))
  try simp only [Act.put, List.getElem_toArray, List.getElem_cons_zero, List.getElem_cons_succ, List.setIfInBounds_toArray, List.set_cons_zero, List.set_cons_succ]
  refine wpAnyH_take (i := 31) (oi := _) (v := ?_) rfl (by kernel_rfl) (by kernel_rfl) (by kernel_rfl) (fun _ _ _ h => h) (Or.inl ⟨by kernel_rfl, ?_⟩) ⟨(k5.keep hC9).cell (j := 0) rfl, (k5.keep hC9).cell (j := 1) rfl⟩ ?_
  rotate_left
  · (rintro w ⟨z0, z1⟩; go_simp; (first | done | rfl))
  try simp only [Act.put, List.getElem_toArray, List.getElem_cons_zero, List.getElem_cons_succ, List.setIfInBounds_toArray, List.set_cons_zero, List.set_cons_succ]
  refine wpAnyH_take (i := 32) (oi := _) (v := ?_) rfl (by kernel_rfl) (by kernel_rfl) (by kernel_rfl) (fun _ _ _ h => h) (Or.inl ⟨by kernel_rfl, ?_⟩) ⟨(k5.keep hC9).cell (j := 0) rfl, (k5.keep hC9).cell (j := 1) rfl⟩ ?_
  rotate_left
  · (rintro w ⟨z0, z1⟩; go_simp; (first | done | rfl))
  try simp only [Act.put, List.getElem_toArray, List.getElem_cons_zero, List.getElem_cons_succ, List.setIfInBounds_toArray, List.set_cons_zero, List.set_cons_succ]
  refine wpAnyH_take (i := 33) (oi := _) (v := ?_) rfl (by kernel_rfl) (by kernel_rfl) (by kernel_rfl) (fun _ _ _ h => h) (Or.inl ⟨by kernel_rfl, ?_⟩) ⟨(k5.keep hC9).cell (j := 0) rfl, (k5.keep hC9).cell (j := 1) rfl⟩ ?_
  rotate_left
  · (rintro w ⟨z0, z1⟩; go_simp; (first | done | rfl))
  try simp only [Act.put, List.getElem_toArray, List.getElem_cons_zero, List.getElem_cons_succ, List.setIfInBounds_toArray, List.set_cons_zero, List.set_cons_succ]
  refine wpAnyH_ready (rs := [34]) (by kernel_rfl) (by simp) (AllReadyH.cons (o := _) rfl (fun K hK => ?_) AllReadyH.nil)
  rw [if_pos (by kernel_rfl)]
  refine wp_fn 12 _ _ rfl _ rfl enters_alive (alive9_ _) ?_
  rintro e w10 ⟨rfl, hb10⟩
  have hC10 : Below w5.heap.size w5 w10 := below_step hC9 hb10 (Nat.le_refl _)
  refine ⟨_, rfl, ?_⟩
  refine hK.out _ _ ⟨(k5.keep hC10).cell (j := 0) rfl, (k5.keep hC10).cell (j := 1) rfl⟩ (fun _ => ?_)
  clear hK K
  try simp only [Act.put, List.getElem_toArray, List.getElem_cons_zero, List.getElem_cons_succ, List.setIfInBounds_toArray, List.set_cons_zero, List.set_cons_succ]
  refine wpAnyH_take (i := 35) (oi := _) (v := ?_) rfl (by kernel_rfl) (by kernel_rfl) (by kernel_rfl) (fun _ _ _ h => h) (Or.inl ⟨by kernel_rfl, ?_⟩) ⟨(k5.keep hC10).cell (j := 0) rfl, (k5.keep hC10).cell (j := 1) rfl⟩ ?_
  rotate_left
  · (rintro w ⟨z0, z1⟩; go_simp; (first | done | rfl))
  try simp only [Act.put, List.getElem_toArray, List.getElem_cons_zero, List.getElem_cons_succ, List.setIfInBounds_toArray, List.set_cons_zero, List.set_cons_succ]
  refine wpAnyH_take (i := 36) (oi := _) (v := ?_) rfl (by kernel_rfl) (by kernel_rfl) (by kernel_rfl) (fun _ _ _ h => h) (Or.inl ⟨by kernel_rfl, ?_⟩) ⟨(k5.keep hC10).cell (j := 0) rfl, (k5.keep hC10).cell (j := 1) rfl⟩ ?_
  rotate_left
  · (rintro w ⟨z0, z1⟩; go_simp; (first | done | rfl))
  try simp only [Act.put, List.getElem_toArray, List.getElem_cons_zero, List.getElem_cons_succ, List.setIfInBounds_toArray, List.set_cons_zero, List.set_cons_succ]
  refine wpAnyH_done (by kernel_rfl) ?_ _
  refine NoPanic.normal ?_
  go_wp2
  go_ret
  exact ⟨rfl, below_step hB5 hC10 (Nat.le_refl _)⟩

set_option maxRecDepth 100000 in
theorem deltaOps_lifted (os : Os) (started : os.Started) (H : Type) (enc : TypeId × Value → H) :
    ReturnsInHanded {} Try.checked os 4 .any (Rows.deltaOpsSpec.pre6 enc Try.prog Try.f4 Rows.deltaOpsRow.domain false) (Rows.deltaOpsSpec.post enc Try.prog Try.f4 false true false false) := by
  refine law_lifted (C := Try.checked) (tb := 4) own_ started (by kernel_rfl) Try.func4
    (ChangeSpec.witness6 (enc := enc) (C := Try.checked) false ⟨#[], #[.agg #[.slice none 0 0, .slice none 0 0], .int .i64 0, .slice none 0 0], []⟩ 8 (by kernel_rfl) (by kernel_rfl) (by kernel_rfl) (by kernel_rfl))
    rfl rfl Try.underlying4 laidOut_ (by kernel_rfl) (fun ds h => by match ds, h with | [_, _, _], _ => rfl) ?_
  intro W base args ds p hval0 hA0 _ hsz0
  have hval : ∀ (j : Nat) t v, Try.f4.params[j]? = some t → args[j]? = some v → Value.okWide Try.prog W .any base t v := hval0
  have hA : DataW.TrodAll enc Try.prog W 0 (fun _ => true) true Try.f4.params.toList args.toList ds p := hA0
  have hsz : (DataW.weightsEach Try.prog Try.f4.params.toList ds).all (· ≤ reachBytes) = true := hsz0
  clear hval0 hA0 hsz0
  rw [Try.params4] at hA hval hsz
  obtain ⟨v0, v1, v2, d0, d1, d2, p0, p1, p2, rfl, rfl, rfl, h0, h1, h2⟩ := trodAll_three hA
  obtain ⟨cs0, a0, rfl, r0, b0⟩ := arg_struct ops_two9 Try.underlying33 (hval 0 _ v0 rfl rfl) h0 (weight_at hsz (j := 0) rfl rfl)
  obtain ⟨z1, rfl, hz1⟩ := arg_int _ _ Try.underlying3 (hval 1 _ v1 rfl rfl) h1 wf_i64
  obtain ⟨A2, n2, c2, xs2, rfl, r2, b2⟩ := arg_slice Blo.ops_ns Try.underlying23 (hval 2 _ v2 rfl rfl) h2 (weight_at hsz (j := 2) rfl rfl)
  obtain ⟨A, n, c, B, m, d, rfl, ⟨q1, q2⟩, ⟨q3, q4⟩⟩ := twoU r0
  obtain ⟨p1, p2⟩ := nsU r2
  exact deltaOps_walk W A B n c m d _ _ q1 q2 q3 q4 z1 hz1 A2 n2 c2 _ p1 p2

/-- DeltaOps, for every input: the statement as it was given. -/
theorem deltaOps_holds : Rows.DeltaOpsSaid :=
  OpenClaim.holds_of_wide 4 Try.f4 rfl rfl rfl rfl rfl rfl rfl ⟨rfl, rfl, rfl, rfl, rfl⟩ rfl rfl rfl rfl rfl (by kernel_rfl) Try.func4 (by kernel_rfl)
    (of_decide_eq_true (by kernel_rfl)) (by unfold Func.isWrapper; first | (rw [if_pos (by decide +kernel)]; kernel_rfl) | (rw [if_neg (by decide +kernel)]; exact ⟨rfl, rfl⟩))
    (fun os started H enc _ => deltaOps_lifted os started H enc)
end Go.Proofs.Ytfdfjnepfgabaaa
