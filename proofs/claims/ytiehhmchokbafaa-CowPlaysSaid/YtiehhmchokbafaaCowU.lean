/- Layer 7: how many nodes are none of another tree's. -/
import Derived.Test.YtiehhmchokbafaaCowS
set_option linter.all false
namespace Go.Proofs.Ytiehhmchokbafaa
open Go.RowKit

/-- What fresh answers. -/
def FreshAns (w : World) (t to : Tr) (e : Ending) (w' : World) : Prop := ∃ k : Nat, e = .returned (.int .i64 (k : Int)) ∧ k ≤ t.fresh ∧ (to = .nil → k = t.size) ∧ Below w.heap.size w w'
set_option maxRecDepth 100000 in
set_option maxHeartbeats 4000000 in
theorem fresh_ (S S2 : Nat → Prop) (w0 : World) (to : Tr) (ao : Option Addr) (h2 : Tree w0 S2 ao to) (hlo : listFrom 0 to.list = true) (hS : ∀ b, S b → Nd w0 b ao to) : ∀ (t : Tr) (a : Option Addr), Tree w0 S a t → t.size ≤ 1000000 → ∀ w, Below w0.heap.size w0 w →
    Calls Try.prog 44 #[.agg #[.pointer a], .agg #[.pointer ao]] w (FreshAns w t to)
  | .nil, a, h, _, w, _ => by
    have h : a = none := h
    subst h
    have hB : Below w.heap.size w ((w.alloc (.cells #[.pointer none] 70)).alloc (.cells #[.pointer ao] 70)) := ((Below.refl _ _).alloc (Nat.le_refl _) _).alloc (by simp) _
    go_enter Try.func44, Try.ntmps44
    go_wp2
    go_ret
    exact ⟨0, rfl, Nat.le_refl _, fun _ => rfl, hB⟩
  | .node nw L kx R, a, h, hs, w, hw => by
    obtain ⟨bl, aL, aR, rfl, hbl, fkx, hfl, hL, hR⟩ := h
    have ihL := fresh_ S S2 w0 to ao h2 hlo hS L aL hL (by simp only [Tr.size] at hs; omega)
    have ihR := fresh_ S S2 w0 to ao h2 hlo hS R aR hR (by simp only [Tr.size] at hs; omega)
    have hsz : L.size + R.size ≤ 999999 := by simp only [Tr.size] at hs; omega
    have hfL := Tr.fresh_le L
    have hfR := Tr.fresh_le R
    obtain ⟨w1, hw1⟩ : ∃ w1, w1 = (w.alloc (.cells #[.pointer (some ⟨bl, 0, none⟩)] 70)).alloc (.cells #[.pointer ao] 70) := ⟨_, rfl⟩
    have b0 : Blk w1 w.heap.size 70 #[.pointer (some ⟨bl, 0, none⟩)] := by rw [hw1]; exact (Blk.new _ _ _ rfl).alloc _
    have b1 : Blk w1 (w.heap.size + 1) 70 #[.pointer ao] := by rw [hw1]; exact Blk.new _ _ _ (by simp)
    have hB1 : Below w.heap.size w w1 := by rw [hw1]; exact ((Below.refl _ _).alloc (Nat.le_refl _) _).alloc (by simp) _
    have hw01 := hw.trans (hB1.mono hw.size)
    have n1 := hbl.keep hw01
    have e0 := b0.cell (j := 0) (u := .pointer (some ⟨bl, 0, none⟩)) rfl
    have e1 := b1.cell (j := 0) (u := .pointer ao) rfl
    have t21 := h2.below hw01
    have hfl1 : nw = false → Nd w1 bl ao to := fun h => (hS bl (hfl h)).below hw01
    generalize hg : w.heap.size = g at *
    rw [hw1] at e0 e1
    go_enter Try.func44, Try.ntmps44
    go_wp2_with fail
    rw [← hw1]
    clear hw1 e0 e1
    refine (has_ S2 bl kx aL aR _ _ to ao w1 t21 hlo n1).mono ?_
    rintro e w2 ⟨r, rfl, hr1, hr2, hb2⟩
    have b02 := b0.keep hb2
    have b12 := b1.keep hb2
    have n2 := n1.keep hb2
    have hw02 := hw01.trans (hb2.mono hw01.size)
    have hB2 := hB1.trans (hb2.mono (by have := hB1.size; omega))
    have hg2 : g ≤ w2.heap.size := by have := hB2.size; omega
    clear b0 b1 n1 hB1 t21 hb2 hw01
    cases r with
    | true =>
      go_wp2
      go_ret
      subst hg
      exact ⟨0, rfl, Nat.zero_le _, fun h => (by cases hr2 h), hB2⟩
    | false =>
      have hnw : nw = true := by
        cases nw with
        | true => rfl
        | false => cases hr1 (hfl1 rfl)
      subst hnw
      clear hr1 hfl1 hr2 hfl
      go_wp2_with fail
      refine wp_region_noPanic ?_
      refine wp_region_held_drew (S := (fun w' => w'.cell? ⟨g, 0, none⟩ = some (.pointer (some ⟨bl, 0, none⟩)) ∧ w'.cell? ⟨g + 1, 0, none⟩ = some (.pointer ao) ∧ w'.cell? ⟨bl, 4, none⟩ = some (.pointer aL) ∧ w'.cell? ⟨bl, 5, none⟩ = some (.pointer aR))) (by kernel_rfl) ⟨b02.cell rfl, b12.cell rfl, n2.cell rfl, n2.cell rfl⟩ (fun _ => ?_)
      refine wpAnyH_take (i := 0) (oi := _) (v := ?_) rfl (by kernel_rfl) (by kernel_rfl) (by kernel_rfl) (fun _ _ _ h => h) (Or.inl ⟨by kernel_rfl, ?_⟩) ⟨b02.cell rfl, b12.cell rfl, n2.cell rfl, n2.cell rfl⟩ ?_
      rotate_left
      · (rintro w ⟨s0, s1, s2, s3⟩; go_simp; (first | done | rfl))
      try simp only [Act.put, List.getElem_toArray, List.getElem_cons_zero, List.getElem_cons_succ, List.setIfInBounds_toArray, List.set_cons_zero, List.set_cons_succ]
      refine wpAnyH_take (i := 1) (oi := _) (v := ?_) rfl (by kernel_rfl) (by kernel_rfl) (by kernel_rfl) (fun _ _ _ h => h) (Or.inl ⟨by kernel_rfl, ?_⟩) ⟨b02.cell rfl, b12.cell rfl, n2.cell rfl, n2.cell rfl⟩ ?_
      rotate_left
      · (rintro w ⟨s0, s1, s2, s3⟩; go_simp; (first | done | rfl))
      try simp only [Act.put, List.getElem_toArray, List.getElem_cons_zero, List.getElem_cons_succ, List.setIfInBounds_toArray, List.set_cons_zero, List.set_cons_succ]
      refine wpAnyH_take (i := 2) (oi := _) (v := ?_) rfl (by kernel_rfl) (by kernel_rfl) (by kernel_rfl) (fun _ _ _ h => h) (Or.inl ⟨by kernel_rfl, ?_⟩) ⟨b02.cell rfl, b12.cell rfl, n2.cell rfl, n2.cell rfl⟩ ?_
      rotate_left
      · (rintro w ⟨s0, s1, s2, s3⟩; go_simp; (first | done | rfl))
      try simp only [Act.put, List.getElem_toArray, List.getElem_cons_zero, List.getElem_cons_succ, List.setIfInBounds_toArray, List.set_cons_zero, List.set_cons_succ]
      refine wpAnyH_take (i := 3) (oi := _) (v := ?_) rfl (by kernel_rfl) (by kernel_rfl) (by kernel_rfl) (fun _ _ _ h => h) (Or.inl ⟨by kernel_rfl, ?_⟩) ⟨b02.cell rfl, b12.cell rfl, n2.cell rfl, n2.cell rfl⟩ ?_
      rotate_left
      · (rintro w ⟨s0, s1, s2, s3⟩; go_simp; (first | done | rfl))
      try simp only [Act.put, List.getElem_toArray, List.getElem_cons_zero, List.getElem_cons_succ, List.setIfInBounds_toArray, List.set_cons_zero, List.set_cons_succ]
      refine wpAnyH_take (i := 4) (oi := _) (v := ?_) rfl (by kernel_rfl) (by kernel_rfl) (by kernel_rfl) (fun _ _ _ h => h) (Or.inl ⟨by kernel_rfl, ?_⟩) ⟨b02.cell rfl, b12.cell rfl, n2.cell rfl, n2.cell rfl⟩ ?_
      rotate_left
      · (rintro w ⟨s0, s1, s2, s3⟩; go_simp; (first | done | rfl))
      try simp only [Act.put, List.getElem_toArray, List.getElem_cons_zero, List.getElem_cons_succ, List.setIfInBounds_toArray, List.set_cons_zero, List.set_cons_succ]
      refine wpAnyH_take (i := 5) (oi := _) (v := ?_) rfl (by kernel_rfl) (by kernel_rfl) (by kernel_rfl) (fun _ _ _ h => h) (Or.inl ⟨by kernel_rfl, ?_⟩) ⟨b02.cell rfl, b12.cell rfl, n2.cell rfl, n2.cell rfl⟩ ?_
      rotate_left
      · (rintro w ⟨s0, s1, s2, s3⟩; go_simp; (first | done | rfl))
      try simp only [Act.put, List.getElem_toArray, List.getElem_cons_zero, List.getElem_cons_succ, List.setIfInBounds_toArray, List.set_cons_zero, List.set_cons_succ]
      refine wpAnyH_take (i := 8) (oi := _) (v := ?_) rfl (by kernel_rfl) (by kernel_rfl) (by kernel_rfl) (fun _ _ _ h => h) (Or.inl ⟨by kernel_rfl, ?_⟩) ⟨b02.cell rfl, b12.cell rfl, n2.cell rfl, n2.cell rfl⟩ ?_
      rotate_left
      · (rintro w ⟨s0, s1, s2, s3⟩; go_simp; (first | done | rfl))
      try simp only [Act.put, List.getElem_toArray, List.getElem_cons_zero, List.getElem_cons_succ, List.setIfInBounds_toArray, List.set_cons_zero, List.set_cons_succ]
      refine wpAnyH_take (i := 9) (oi := _) (v := ?_) rfl (by kernel_rfl) (by kernel_rfl) (by kernel_rfl) (fun _ _ _ h => h) (Or.inl ⟨by kernel_rfl, ?_⟩) ⟨b02.cell rfl, b12.cell rfl, n2.cell rfl, n2.cell rfl⟩ ?_
      rotate_left
      · (rintro w ⟨s0, s1, s2, s3⟩; go_simp; (first | done | rfl))
      try simp only [Act.put, List.getElem_toArray, List.getElem_cons_zero, List.getElem_cons_succ, List.setIfInBounds_toArray, List.set_cons_zero, List.set_cons_succ]
      refine wpAnyH_take (i := 10) (oi := _) (v := ?_) rfl (by kernel_rfl) (by kernel_rfl) (by kernel_rfl) (fun _ _ _ h => h) (Or.inl ⟨by kernel_rfl, ?_⟩) ⟨b02.cell rfl, b12.cell rfl, n2.cell rfl, n2.cell rfl⟩ ?_
      rotate_left
      · (rintro w ⟨s0, s1, s2, s3⟩; go_simp; (first | done | rfl))
      try simp only [Act.put, List.getElem_toArray, List.getElem_cons_zero, List.getElem_cons_succ, List.setIfInBounds_toArray, List.set_cons_zero, List.set_cons_succ]
      refine wpAnyH_take (i := 11) (oi := _) (v := ?_) rfl (by kernel_rfl) (by kernel_rfl) (by kernel_rfl) (fun _ _ _ h => h) (Or.inl ⟨by kernel_rfl, ?_⟩) ⟨b02.cell rfl, b12.cell rfl, n2.cell rfl, n2.cell rfl⟩ ?_
      rotate_left
      · (rintro w ⟨s0, s1, s2, s3⟩; go_simp; (first | done | rfl))
      try simp only [Act.put, List.getElem_toArray, List.getElem_cons_zero, List.getElem_cons_succ, List.setIfInBounds_toArray, List.set_cons_zero, List.set_cons_succ]
      refine wpAnyH_take (i := 12) (oi := _) (v := ?_) rfl (by kernel_rfl) (by kernel_rfl) (by kernel_rfl) (fun _ _ _ h => h) (Or.inl ⟨by kernel_rfl, ?_⟩) ⟨b02.cell rfl, b12.cell rfl, n2.cell rfl, n2.cell rfl⟩ ?_
      rotate_left
      · (rintro w ⟨s0, s1, s2, s3⟩; go_simp; (first | done | rfl))
      try simp only [Act.put, List.getElem_toArray, List.getElem_cons_zero, List.getElem_cons_succ, List.setIfInBounds_toArray, List.set_cons_zero, List.set_cons_succ]
      refine wpAnyH_take (i := 13) (oi := _) (v := ?_) rfl (by kernel_rfl) (by kernel_rfl) (by kernel_rfl) (fun _ _ _ h => h) (Or.inl ⟨by kernel_rfl, ?_⟩) ⟨b02.cell rfl, b12.cell rfl, n2.cell rfl, n2.cell rfl⟩ ?_
      rotate_left
      · (rintro w ⟨s0, s1, s2, s3⟩; go_simp; (first | done | rfl))
      try simp only [Act.put, List.getElem_toArray, List.getElem_cons_zero, List.getElem_cons_succ, List.setIfInBounds_toArray, List.set_cons_zero, List.set_cons_succ]
      refine wpAnyH_ready (rs := [6]) (by kernel_rfl) (by simp) (AllReadyH.cons (o := _) rfl (fun K hK => ?_) AllReadyH.nil)
      rw [if_pos (by kernel_rfl)]
      refine wp_fn 44 _ _ rfl _ rfl enters_fresh (ihL _ hw02.drew) ?_
      rintro e w3 ⟨kL, rfl, hk1, hk2, hb3⟩
      have hB3 : Below w2.heap.size w2 w3 := below_undrew hb3
      have hkL : kL ≤ 999999 := by omega
      obtain ⟨K1, hK1⟩ : ∃ K1 : Nat, K1 = 1 + kL := ⟨_, rfl⟩
      have hwa : IntKind.i64.wrap (1 + (kL : Int)) = (K1 : Int) := by rw [IntKind.wrap_i64]; omega
      refine ⟨_, rfl, ?_⟩
      refine hK.out _ _ ⟨(b02.keep hB3).cell rfl, (b12.keep hB3).cell rfl, (n2.keep hB3).cell rfl, (n2.keep hB3).cell rfl⟩ (fun _ => ?_)
      clear hK K
      try simp only [Act.put, List.getElem_toArray, List.getElem_cons_zero, List.getElem_cons_succ, List.setIfInBounds_toArray, List.set_cons_zero, List.set_cons_succ]
      refine wpAnyH_take (i := 7) (oi := _) (v := ?_) rfl (by kernel_rfl) (by kernel_rfl) (by kernel_rfl) (fun _ _ _ h => h) (Or.inl ⟨by kernel_rfl, ?_⟩) ⟨(b02.keep hB3).cell rfl, (b12.keep hB3).cell rfl, (n2.keep hB3).cell rfl, (n2.keep hB3).cell rfl⟩ ?_
      rotate_left
      · (rintro w ⟨s0, s1, s2, s3⟩; go_simp; (first | done | rfl))
      try simp only [Act.put, List.getElem_toArray, List.getElem_cons_zero, List.getElem_cons_succ, List.setIfInBounds_toArray, List.set_cons_zero, List.set_cons_succ]
      refine wpAnyH_ready (rs := [14]) (by kernel_rfl) (by simp) (AllReadyH.cons (o := _) rfl (fun K hK => ?_) AllReadyH.nil)
      rw [if_pos (by kernel_rfl)]
      refine wp_fn 44 _ _ rfl _ rfl enters_fresh (ihR _ (hw02.trans (hB3.mono hw02.size))) ?_
      rintro e w4 ⟨kR, rfl, hk3, hk4, hb4⟩
      have hB4 : Below w2.heap.size w2 w4 := below_step hB3 hb4 (Nat.le_refl _)
      have hkR : kR ≤ 999999 := by omega
      obtain ⟨K2, hK2⟩ : ∃ K2 : Nat, K2 = 1 + kL + kR := ⟨_, rfl⟩
      have hwb : IntKind.i64.wrap ((K1 : Int) + (kR : Int)) = (K2 : Int) := by rw [IntKind.wrap_i64]; omega
      have hwc : IntKind.i64.wrap (1 + (kL : Int) + (kR : Int)) = (K2 : Int) := by rw [IntKind.wrap_i64]; omega
      have HC := Lib.hid hwc
      clear hwc
      have HK := Lib.hid hK2
      clear hK2 hK1
      refine ⟨_, rfl, ?_⟩
      refine hK.out _ _ ⟨(b02.keep hB4).cell rfl, (b12.keep hB4).cell rfl, (n2.keep hB4).cell rfl, (n2.keep hB4).cell rfl⟩ (fun _ => ?_)
      clear hK K
      try simp only [Act.put, List.getElem_toArray, List.getElem_cons_zero, List.getElem_cons_succ, List.setIfInBounds_toArray, List.set_cons_zero, List.set_cons_succ]
      refine wpAnyH_take (i := 15) (oi := _) (v := ?_) rfl (by kernel_rfl) (by kernel_rfl) (by kernel_rfl) (fun _ _ _ h => h) (Or.inl ⟨by kernel_rfl, ?_⟩) ⟨(b02.keep hB4).cell rfl, (b12.keep hB4).cell rfl, (n2.keep hB4).cell rfl, (n2.keep hB4).cell rfl⟩ ?_
      rotate_left
      · (rintro w ⟨s0, s1, s2, s3⟩; go_simp; (first | done | rfl))
      try simp only [Act.put, List.getElem_toArray, List.getElem_cons_zero, List.getElem_cons_succ, List.setIfInBounds_toArray, List.set_cons_zero, List.set_cons_succ]
      refine wpAnyH_take (i := 16) (oi := _) (v := ?_) rfl (by kernel_rfl) (by kernel_rfl) (by kernel_rfl) (fun _ _ _ h => h) (Or.inl ⟨by kernel_rfl, ?_⟩) ⟨(b02.keep hB4).cell rfl, (b12.keep hB4).cell rfl, (n2.keep hB4).cell rfl, (n2.keep hB4).cell rfl⟩ ?_
      rotate_left
      · (rintro w ⟨s0, s1, s2, s3⟩; go_simp; (first | done | rfl))
      try simp only [Act.put, List.getElem_toArray, List.getElem_cons_zero, List.getElem_cons_succ, List.setIfInBounds_toArray, List.set_cons_zero, List.set_cons_succ]
      refine wpAnyH_done (by kernel_rfl) ?_ _
      refine NoPanic.normal ?_
      go_wp2
      go_ret
      subst hg
      exact ⟨K2, (by show Ending.returned (.int .i64 (IntKind.i64.wrap (1 + (kL : Int) + (kR : Int)))) = _; rw [HC.out]), (by rw [HK.out]; simp only [Tr.fresh, if_true]; omega), fun h => (by rw [HK.out, hk2 h, hk4 h]; simp only [Tr.size]; omega), hB2.trans (hB4.mono hg2)⟩
end Go.Proofs.Ytiehhmchokbafaa
