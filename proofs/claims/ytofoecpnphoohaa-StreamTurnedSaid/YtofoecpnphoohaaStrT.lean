/- Layer 10: record: the record of an op. -/
import Derived.Test.YtofoecpnphoohaaStrS
import Derived.Test.YtofoecpnphoohaaBloD
set_option linter.all false
namespace Go.Proofs.Ytofoecpnphoohaa
open Go.RowKit
namespace Str
open Blo (I64)
/-- The record of an op. -/
def recOp (o : BOp) : Rec := ⟨if o.kind = 1 then 2 else if o.kind = 2 then 3 else 0, 0, 0, 0, 0, o.off, o.len, o.data⟩
theorem enters_Clone (vs : Array Value) (w : World) : (callFunc 28 vs).run Try.prog w = .ok (.enter 28 vs) w := by go_simp
theorem k4 {w : World} {b : Nat} {t : TypeId} {o : BOp} {d : Value} (h : Blk w b t (oa o d)) : w.cell? ⟨b, 0, none⟩ = some (.int .i64 o.kind) ∧ w.cell? ⟨b, 1, none⟩ = some (.int .i64 o.off) ∧ w.cell? ⟨b, 2, none⟩ = some (.int .i64 o.len) ∧ w.cell? ⟨b, 3, none⟩ = some d :=
  ⟨h.cell rfl, h.cell rfl, h.cell rfl, h.cell rfl⟩
def RecA (w w' : World) (e : Ending) (o : BOp) : Prop := ∃ D cd, e = .returned (.agg (ra (recOp o) (.slice D o.data.length cd))) ∧ w'.ownsRow w.heap.size 52 1 (.slice D o.data.length cd) o.data.length (nvs o.data) ∧ Below w.heap.size w w'
section
variable (w : World)
set_option maxRecDepth 100000 in
set_option maxHeartbeats 4000000 in
theorem record_ (o : BOp) (X : Option Addr) (m c : Nat) (hd : Blo.Dat w o X m c) : Calls Try.prog 26 #[.agg (oa o (.slice X m c))] w fun e w' => RecA w w' e o := by
  have Hm := Lib.hid hd.len
  obtain ⟨i0, hi0, hz0, _, _⟩ := rec_info
  obtain ⟨w1, hw1⟩ : ∃ w1, w.alloc (.cells (oa o (.slice X m c)) 58) = w1 := ⟨_, rfl⟩
  have hs1 : w1.heap.size = w.heap.size + 1 := by rw [← hw1]; simp
  have hbb1 : Below w.heap.size w w1 := by rw [← hw1]; exact (Below.refl _ _).alloc (Nat.le_refl _) _
  have hr1 : Blk w1 w.heap.size 58 (oa o (.slice X m c)) := by rw [← hw1]; exact Blk.new w _ _ rfl
  obtain ⟨w2, hw2⟩ : ∃ w2, w1.alloc (.cells ra0 39) = w2 := ⟨_, rfl⟩
  have hbb2 : Below w.heap.size w w2 := by rw [← hw2]; exact hbb1.alloc hbb1.size _
  have hss2 : w2.heap.size = w.heap.size + 2 := by rw [← hw2]; simp [hs1]
  have hq2 : Blk w2 (w.heap.size + 1) 39 ra0 := by rw [← hw2]; exact Blk.new w1 _ _ hs1.symm
  have hbx : Blk w2.drew w.heap.size 58 (oa o (.slice X m c)) := by rw [← hw2]; exact hr1.alloc _
  have hdt : Blo.Dat w2.drew o X m c := hd.below (w' := w2.drew) ⟨hbb2.os, hbb2.tape, hbb2.output, hbb2.size, hbb2.block⟩
  have hq : Blk w2.drew (w.heap.size + 1) 39 ra0 := hq2
  have hss : w2.drew.heap.size = w.heap.size + 2 := hss2
  have Hss2 := Lib.hid hss2
  clear hd hr1 hbb1 hq2 hss2
  go_enter Try.func26, Try.ntmps26
  go_wp2_with fail
  refine wp_region_noPanic ?_
  refine wp_region_held_drew (S := (fun w' => w'.cell? ⟨w.heap.size, 0, none⟩ = some (.int .i64 o.kind) ∧ w'.cell? ⟨w.heap.size, 1, none⟩ = some (.int .i64 o.off) ∧ w'.cell? ⟨w.heap.size, 2, none⟩ = some (.int .i64 o.len) ∧ w'.cell? ⟨w.heap.size, 3, none⟩ = some (.slice X m c))) (by kernel_rfl) (k4 hbx) (fun _ => ?_)
  refine wpAnyH_take (i := 0) (oi := _) (v := ?_) rfl (by kernel_rfl) (by kernel_rfl) (by kernel_rfl) (fun _ _ _ h => h) (Or.inl ⟨by kernel_rfl, ?_⟩) (k4 hbx) ?_
  rotate_left
  · (rintro w ⟨s0, s1, s2, s3⟩; go_simp; (first | done | rfl))
  try simp only [Act.put, List.getElem_toArray, List.getElem_cons_zero, List.getElem_cons_succ, List.setIfInBounds_toArray, List.set_cons_zero, List.set_cons_succ]
  refine wpAnyH_take (i := 1) (oi := _) (v := ?_) rfl (by kernel_rfl) (by kernel_rfl) (by kernel_rfl) (fun _ _ _ h => h) (Or.inl ⟨by kernel_rfl, ?_⟩) (k4 hbx) ?_
  rotate_left
  · (rintro w ⟨s0, s1, s2, s3⟩; go_simp; (first | done | rfl))
  try simp only [Act.put, List.getElem_toArray, List.getElem_cons_zero, List.getElem_cons_succ, List.setIfInBounds_toArray, List.set_cons_zero, List.set_cons_succ]
  refine wpAnyH_take (i := 2) (oi := _) (v := ?_) rfl (by kernel_rfl) (by kernel_rfl) (by kernel_rfl) (fun _ _ _ h => h) (Or.inl ⟨by kernel_rfl, ?_⟩) (k4 hbx) ?_
  rotate_left
  · (rintro w ⟨s0, s1, s2, s3⟩; go_simp; (first | done | rfl))
  try simp only [Act.put, List.getElem_toArray, List.getElem_cons_zero, List.getElem_cons_succ, List.setIfInBounds_toArray, List.set_cons_zero, List.set_cons_succ]
  refine wpAnyH_take (i := 3) (oi := _) (v := ?_) rfl (by kernel_rfl) (by kernel_rfl) (by kernel_rfl) (fun _ _ _ h => h) (Or.inl ⟨by kernel_rfl, ?_⟩) (k4 hbx) ?_
  rotate_left
  · (rintro w ⟨s0, s1, s2, s3⟩; go_simp; (first | done | rfl))
  try simp only [Act.put, List.getElem_toArray, List.getElem_cons_zero, List.getElem_cons_succ, List.setIfInBounds_toArray, List.set_cons_zero, List.set_cons_succ]
  refine wpAnyH_take (i := 4) (oi := _) (v := ?_) rfl (by kernel_rfl) (by kernel_rfl) (by kernel_rfl) (fun _ _ _ h => h) (Or.inl ⟨by kernel_rfl, ?_⟩) (k4 hbx) ?_
  rotate_left
  · (rintro w ⟨s0, s1, s2, s3⟩; go_simp; (first | done | rfl))
  try simp only [Act.put, List.getElem_toArray, List.getElem_cons_zero, List.getElem_cons_succ, List.setIfInBounds_toArray, List.set_cons_zero, List.set_cons_succ]
  refine wpAnyH_take (i := 5) (oi := _) (v := ?_) rfl (by kernel_rfl) (by kernel_rfl) (by kernel_rfl) (fun _ _ _ h => h) (Or.inl ⟨by kernel_rfl, ?_⟩) (k4 hbx) ?_
  rotate_left
  · (rintro w ⟨s0, s1, s2, s3⟩; go_simp; (first | done | rfl))
  try simp only [Act.put, List.getElem_toArray, List.getElem_cons_zero, List.getElem_cons_succ, List.setIfInBounds_toArray, List.set_cons_zero, List.set_cons_succ]
  refine wpAnyH_ready (rs := [6, 8]) (by kernel_rfl) (by simp) (AllReadyH.cons (o := _) rfl (fun K hK => ?_) (AllReadyH.cons (o := _) rfl (fun K hK => ?_) AllReadyH.nil))
  · rw [if_pos (by kernel_rfl)]
    refine wp_fn 28 _ _ rfl _ rfl enters_Clone (Blo.clone_ _ X m c o.data hdt.ns hdt.nil hdt.le hdt.cap hdt.by8) ?_
    rintro e w3 ⟨v, rfl, hown, hb3⟩
    obtain ⟨D, cd, rfl, hcd, hmd, had⟩ := own_form hown
    have hlt := hown.lt
    have hB3 := hb3
    have hbx3 := hbx.keep hB3
    refine ⟨_, rfl, ?_⟩
    refine hK.out _ _ (k4 hbx3) (fun _ => ?_)
    clear hK K
    try simp only [Act.put, List.getElem_toArray, List.getElem_cons_zero, List.getElem_cons_succ, List.setIfInBounds_toArray, List.set_cons_zero, List.set_cons_succ]
    refine wpAnyH_take (i := 7) (oi := _) (v := ?_) rfl (by kernel_rfl) (by kernel_rfl) (by kernel_rfl) (fun _ _ _ h => h) (Or.inl ⟨by kernel_rfl, ?_⟩) (k4 hbx3) ?_
    rotate_left
    · (rintro w ⟨s0, s1, s2, s3⟩; go_simp; (first | done | rfl))
    try simp only [Act.put, List.getElem_toArray, List.getElem_cons_zero, List.getElem_cons_succ, List.setIfInBounds_toArray, List.set_cons_zero, List.set_cons_succ]
    refine wpAnyH_ready (rs := [8]) (by kernel_rfl) (by simp) (AllReadyH.cons (o := _) rfl (fun K hK => ?_) AllReadyH.nil)
    rw [if_pos (by kernel_rfl)]
    refine wp_alloc_blk 39 rfl i0 _ hi0 hz0 ?_
    intro w4 hk hb4 hs4
    have hB4 := below_step hB3 hb4 (Nat.le_refl _)
    have hbx4 := hbx.keep hB4
    have hown := own_keep hown hb4
    refine hK.out _ _ (k4 hbx4) (fun _ => ?_)
    clear hK K
    try simp only [Act.put, List.getElem_toArray, List.getElem_cons_zero, List.getElem_cons_succ, List.setIfInBounds_toArray, List.set_cons_zero, List.set_cons_succ]
    refine wpAnyH_ready (rs := [9]) (by kernel_rfl) (by simp) (AllReadyH.cons (o := _) rfl (fun K hK => ?_) AllReadyH.nil)
    rw [if_pos (by kernel_rfl)]
    refine wp_store_blk 39 _ _ rfl (w3.heap.size) 39 _ (ra ⟨0, 0, 0, 0, 0, o.off, o.len, o.data⟩ (.slice D m cd)) hk rfl rfl rfl size_rec (one_rec _ _ _ _) ?_
    intro w5 hk5 hT5
    have hsz4 := hB4.size
    have hbx5 := hT5.blk hbx4 (by omega)
    refine hK.out _ _ (k4 hbx5) (fun _ => ?_)
    clear hK K
    try simp only [Act.put, List.getElem_toArray, List.getElem_cons_zero, List.getElem_cons_succ, List.setIfInBounds_toArray, List.set_cons_zero, List.set_cons_succ]
    refine wpAnyH_done (by kernel_rfl) ?_ _
    refine NoPanic.normal ?_
    have hsz3 := hB3.size
    have hown5 : w5.ownsRow w.heap.size 52 1 (.slice D m cd) m (nvs o.data) := (own_grown hown (tn_grown hT5) (fun k hk e => by injection e with e; have := hlt k hk; omega)).mono (by omega)
    have hB5 : Below w.heap.size w w5 := (hbb2.trans ((Blo.below_undrew hB4).mono hbb2.size)).trans (hT5.below (by omega) (by omega))
    have hres5 : Blk w5 (w.heap.size + 1) 39 ra0 := hT5.blk (hq.keep hB4) (by omega)
    have k5 : Blk w5 (w3.heap.size) 39 (ra ⟨0, 0, 0, 0, 0, o.off, o.len, o.data⟩ (.slice D m cd)) := hk5
    have hne : w.heap.size + 1 ≠ w3.heap.size := by have : w3.heap.size = w3.heap.size := rfl; omega
    have hlo : w.heap.size ≤ w3.heap.size := by have : w3.heap.size = w3.heap.size := rfl; omega
    have hnd : ∀ k, (Value.slice D m cd).ownBlock = some k → k ≠ w3.heap.size := fun k hk e => by have := hlt k hk; have : w3.heap.size = w3.heap.size := rfl; omega
    have hnr : ∀ k, (Value.slice D m cd).ownBlock = some k → k ≠ w.heap.size + 1 := fun k hk e => by have := hlt k hk; omega
    obtain ⟨y0, y1, y2, y3, y4, y5, y6, y7⟩ := k8 k5
    dsimp only at y0 y1 y2 y3 y4 y5 y6 y7
    obtain ⟨⟨g0, g1, g2, g3, g4, g5, g6, g7⟩, gz⟩ := k8z hres5
    have yz := k5.free
    obtain ⟨x0, x1, x2, x3⟩ := k4 hbx5
    clear hss hk5 hT5 hown hbx4 hbx3 hB3 hB4 hb3 hb4 hbx hdt hq hbb2 hbx5 hk hlt
    by_cases hk1 : o.kind = 1
    · have HR := Lib.hid (show recOp o = ⟨2, 0, 0, 0, 0, o.off, o.len, o.data⟩ by unfold recOp; rw [if_pos hk1])
      have hs6 := grown_setCell w5 ⟨w3.heap.size, 0, none⟩ (.int .i64 2)
      have hres6 := hres5.grown hs6 (fun e => by injection e with e; exact hne e)
      have hown6 := own_grown hown5 hs6 (fun k hk e => by injection e with e; exact hnd k hk e)
      have hB6 := hB5.setCell (p := ⟨w3.heap.size, 0, none⟩) hlo (.int .i64 2)
      go_wp2
      refine bodyPost_ret (results_rec rfl rfl (blk_all hres6 _ _ _ _ _ _ _ _)) rfl ?_
      unfold RecA
      rw [HR.out, ← Hm.out]
      exact ⟨D, cd, rfl, own_grown hown6 (grown_all _ _ _ _ _ _ _ _ _ _) (fun k hk e => by injection e with e; exact hnr k hk e), below_all hB6 (Nat.le_succ _) _ _ _ _ _ _ _ _⟩
    · by_cases hk2 : o.kind = 2
      · have HR := Lib.hid (show recOp o = ⟨3, 0, 0, 0, 0, o.off, o.len, o.data⟩ by unfold recOp; rw [if_neg hk1, if_pos hk2])
        have hs6 := grown_setCell w5 ⟨w3.heap.size, 0, none⟩ (.int .i64 3)
        have hres6 := hres5.grown hs6 (fun e => by injection e with e; exact hne e)
        have hown6 := own_grown hown5 hs6 (fun k hk e => by injection e with e; exact hnd k hk e)
        have hB6 := hB5.setCell (p := ⟨w3.heap.size, 0, none⟩) hlo (.int .i64 3)
        go_wp2
        refine bodyPost_ret (results_rec rfl rfl (blk_all hres6 _ _ _ _ _ _ _ _)) rfl ?_
        unfold RecA
        rw [HR.out, ← Hm.out]
        exact ⟨D, cd, rfl, own_grown hown6 (grown_all _ _ _ _ _ _ _ _ _ _) (fun k hk e => by injection e with e; exact hnr k hk e), below_all hB6 (Nat.le_succ _) _ _ _ _ _ _ _ _⟩
      · have HR := Lib.hid (show recOp o = ⟨0, 0, 0, 0, 0, o.off, o.len, o.data⟩ by unfold recOp; rw [if_neg hk1, if_neg hk2])
        go_wp2
        refine bodyPost_ret (results_rec rfl rfl (blk_all hres5 _ _ _ _ _ _ _ _)) rfl ?_
        unfold RecA
        rw [HR.out, ← Hm.out]
        exact ⟨D, cd, rfl, own_grown hown5 (grown_all _ _ _ _ _ _ _ _ _ _) (fun k hk e => by injection e with e; exact hnr k hk e), below_all hB5 (Nat.le_succ _) _ _ _ _ _ _ _ _⟩
  · rw [if_pos (by kernel_rfl)]
    refine wp_alloc_blk 39 rfl i0 _ hi0 hz0 ?_
    intro w3 hk hb3 hs3
    have hB3 := hb3
    have hbx3 := hbx.keep hB3
    refine hK.out _ _ (k4 hbx3) (fun _ => ?_)
    clear hK K
    try simp only [Act.put, List.getElem_toArray, List.getElem_cons_zero, List.getElem_cons_succ, List.setIfInBounds_toArray, List.set_cons_zero, List.set_cons_succ]
    refine wpAnyH_ready (rs := [6]) (by kernel_rfl) (by simp) (AllReadyH.cons (o := _) rfl (fun K hK => ?_) AllReadyH.nil)
    rw [if_pos (by kernel_rfl)]
    refine wp_fn 28 _ _ rfl _ rfl enters_Clone (Blo.clone_ _ X m c o.data (hdt.ns.below hB3) hdt.nil hdt.le hdt.cap hdt.by8) ?_
    rintro e w4 ⟨v, rfl, hown, hb4⟩
    obtain ⟨D, cd, rfl, hcd, hmd, had⟩ := own_form hown
    have hlt := hown.lt
    have hB4 := below_step hB3 hb4 (Nat.le_refl _)
    have hbx4 := hbx.keep hB4
    have hk := hk.keep hb4
    refine ⟨_, rfl, ?_⟩
    refine hK.out _ _ (k4 hbx4) (fun _ => ?_)
    clear hK K
    try simp only [Act.put, List.getElem_toArray, List.getElem_cons_zero, List.getElem_cons_succ, List.setIfInBounds_toArray, List.set_cons_zero, List.set_cons_succ]
    refine wpAnyH_take (i := 7) (oi := _) (v := ?_) rfl (by kernel_rfl) (by kernel_rfl) (by kernel_rfl) (fun _ _ _ h => h) (Or.inl ⟨by kernel_rfl, ?_⟩) (k4 hbx4) ?_
    rotate_left
    · (rintro w ⟨s0, s1, s2, s3⟩; go_simp; (first | done | rfl))
    try simp only [Act.put, List.getElem_toArray, List.getElem_cons_zero, List.getElem_cons_succ, List.setIfInBounds_toArray, List.set_cons_zero, List.set_cons_succ]
    refine wpAnyH_ready (rs := [9]) (by kernel_rfl) (by simp) (AllReadyH.cons (o := _) rfl (fun K hK => ?_) AllReadyH.nil)
    rw [if_pos (by kernel_rfl)]
    refine wp_store_blk 39 _ _ rfl (w2.drew.heap.size) 39 _ (ra ⟨0, 0, 0, 0, 0, o.off, o.len, o.data⟩ (.slice D m cd)) hk rfl rfl rfl size_rec (one_rec _ _ _ _) ?_
    intro w5 hk5 hT5
    have hsz4 := hB4.size
    have hbx5 := hT5.blk hbx4 (by omega)
    refine hK.out _ _ (k4 hbx5) (fun _ => ?_)
    clear hK K
    try simp only [Act.put, List.getElem_toArray, List.getElem_cons_zero, List.getElem_cons_succ, List.setIfInBounds_toArray, List.set_cons_zero, List.set_cons_succ]
    refine wpAnyH_done (by kernel_rfl) ?_ _
    refine NoPanic.normal ?_
    have hsz3 := hB3.size
    have hown5 : w5.ownsRow w.heap.size 52 1 (.slice D m cd) m (nvs o.data) := (own_grown hown (tn_grown hT5) (fun k hk e => by injection e with e; have := hlt k hk; omega)).mono (by omega)
    have hB5 : Below w.heap.size w w5 := (hbb2.trans ((Blo.below_undrew hB4).mono hbb2.size)).trans (hT5.below (by omega) (by omega))
    have hres5 : Blk w5 (w.heap.size + 1) 39 ra0 := hT5.blk (hq.keep hB4) (by omega)
    have k5 : Blk w5 (w2.heap.size) 39 (ra ⟨0, 0, 0, 0, 0, o.off, o.len, o.data⟩ (.slice D m cd)) := hk5
    have hne : w.heap.size + 1 ≠ w2.heap.size := by have : w2.drew.heap.size = w2.heap.size := rfl; omega
    have hlo : w.heap.size ≤ w2.heap.size := by have : w2.drew.heap.size = w2.heap.size := rfl; omega
    have hnd : ∀ k, (Value.slice D m cd).ownBlock = some k → k ≠ w2.heap.size := fun k hk e => by have := hlt k hk; have : w2.drew.heap.size = w2.heap.size := rfl; omega
    have hnr : ∀ k, (Value.slice D m cd).ownBlock = some k → k ≠ w.heap.size + 1 := fun k hk e => by have := hlt k hk; omega
    obtain ⟨y0, y1, y2, y3, y4, y5, y6, y7⟩ := k8 k5
    dsimp only at y0 y1 y2 y3 y4 y5 y6 y7
    obtain ⟨⟨g0, g1, g2, g3, g4, g5, g6, g7⟩, gz⟩ := k8z hres5
    have yz := k5.free
    obtain ⟨x0, x1, x2, x3⟩ := k4 hbx5
    clear hss hk5 hT5 hown hbx4 hbx3 hB3 hB4 hb3 hb4 hbx hdt hq hbb2 hbx5 hk hlt
    by_cases hk1 : o.kind = 1
    · have HR := Lib.hid (show recOp o = ⟨2, 0, 0, 0, 0, o.off, o.len, o.data⟩ by unfold recOp; rw [if_pos hk1])
      have hs6 := grown_setCell w5 ⟨w2.heap.size, 0, none⟩ (.int .i64 2)
      have hres6 := hres5.grown hs6 (fun e => by injection e with e; exact hne e)
      have hown6 := own_grown hown5 hs6 (fun k hk e => by injection e with e; exact hnd k hk e)
      have hB6 := hB5.setCell (p := ⟨w2.heap.size, 0, none⟩) hlo (.int .i64 2)
      go_wp2
      refine bodyPost_ret (results_rec rfl rfl (blk_all hres6 _ _ _ _ _ _ _ _)) rfl ?_
      unfold RecA
      rw [HR.out, ← Hm.out]
      exact ⟨D, cd, rfl, own_grown hown6 (grown_all _ _ _ _ _ _ _ _ _ _) (fun k hk e => by injection e with e; exact hnr k hk e), below_all hB6 (Nat.le_succ _) _ _ _ _ _ _ _ _⟩
    · by_cases hk2 : o.kind = 2
      · have HR := Lib.hid (show recOp o = ⟨3, 0, 0, 0, 0, o.off, o.len, o.data⟩ by unfold recOp; rw [if_neg hk1, if_pos hk2])
        have hs6 := grown_setCell w5 ⟨w2.heap.size, 0, none⟩ (.int .i64 3)
        have hres6 := hres5.grown hs6 (fun e => by injection e with e; exact hne e)
        have hown6 := own_grown hown5 hs6 (fun k hk e => by injection e with e; exact hnd k hk e)
        have hB6 := hB5.setCell (p := ⟨w2.heap.size, 0, none⟩) hlo (.int .i64 3)
        go_wp2
        refine bodyPost_ret (results_rec rfl rfl (blk_all hres6 _ _ _ _ _ _ _ _)) rfl ?_
        unfold RecA
        rw [HR.out, ← Hm.out]
        exact ⟨D, cd, rfl, own_grown hown6 (grown_all _ _ _ _ _ _ _ _ _ _) (fun k hk e => by injection e with e; exact hnr k hk e), below_all hB6 (Nat.le_succ _) _ _ _ _ _ _ _ _⟩
      · have HR := Lib.hid (show recOp o = ⟨0, 0, 0, 0, 0, o.off, o.len, o.data⟩ by unfold recOp; rw [if_neg hk1, if_neg hk2])
        go_wp2
        refine bodyPost_ret (results_rec rfl rfl (blk_all hres5 _ _ _ _ _ _ _ _)) rfl ?_
        unfold RecA
        rw [HR.out, ← Hm.out]
        exact ⟨D, cd, rfl, own_grown hown5 (grown_all _ _ _ _ _ _ _ _ _ _) (fun k hk e => by injection e with e; exact hnr k hk e), below_all hB5 (Nat.le_succ _) _ _ _ _ _ _ _ _⟩
end
end Str
end Go.Proofs.Ytofoecpnphoohaa
