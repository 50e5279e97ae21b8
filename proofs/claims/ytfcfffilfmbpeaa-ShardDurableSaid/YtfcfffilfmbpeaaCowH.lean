/- XCowG, XCowH. -/
import Derived.Test.YtfcfffilfmbpeaaCowF
import Derived.Test.YtfcfffilfmbpeaaCowX
set_option linter.all false
namespace Go.Proofs.Ytfcfffilfmbpeaa
open Go.RowKit

section
variable (S : Nat → Prop)
set_option maxRecDepth 100000 in
set_option maxHeartbeats 4000000 in
theorem below_ (b : Int) (fb : I64 b) : ∀ (t : Tr) (lo : Int) (a : Option Addr), t.bal → listFrom lo t.list = true → t.size ≤ 500000 → ∀ w : World, Tree w S a t →
    Calls Try.prog 85 #[.agg #[.pointer a], .int .i64 b] w fun e w' => ∃ a', e = .returned (.agg #[.pointer a']) ∧ Tree w' S a' (belowT t b) ∧ Below w.heap.size w w'
  | .nil, _, _, _, _, _, w, h => by
    have h : _ = none := h
    subst h
    have hB : Below w.heap.size w ((w.alloc (.cells #[.pointer none] 103)).alloc (.cells #[.pointer none] 103)) := ((Below.refl _ _).alloc (Nat.le_refl _) _).alloc (by simp) _
    have hk := Blk.new (w.alloc (.cells #[.pointer none] 103)) 103 #[.pointer none] (g := w.heap.size + 1) (by simp)
    go_enter Try.func85, Try.ntmps85
    go_wp2
    refine bodyPost_ret (results_tr rfl rfl hk) rfl ?_
    exact ⟨none, rfl, rfl, hB⟩
  | .node nw L kx R, m, a, ht, hl, hs, w, h => by
    obtain ⟨c1, c2, c3, c4⟩ := (Tr.bal_node _ _ _ _).1 ht
    obtain ⟨l1, l2, l3, l4, l5⟩ := listFrom_mid (show listFrom m (L.list ++ kx :: R.list) = true from hl)
    have hx := may_len l3
    have hsz : L.size + R.size ≤ 499999 := by simp only [Tr.size] at hs; omega
    obtain ⟨bl, aL, aR, rfl, hbl, fkx, -, hL, hR⟩ := h
    have hlbl := hbl.lt
    unfold I64 at fb
    have hwx : IntKind.i64.wrap (kx.off + kx.len) = kx.off + kx.len := by rw [IntKind.wrap_i64]; omega
    obtain ⟨w1, hw1⟩ : ∃ w1, w1 = (w.alloc (.cells #[.pointer (some ⟨bl, 0, none⟩)] 103)).alloc (.cells #[.pointer none] 103) := ⟨_, rfl⟩
    have b0 : Blk w1 w.heap.size 103 #[.pointer (some ⟨bl, 0, none⟩)] := by rw [hw1]; exact (Blk.new _ _ _ rfl).alloc _
    have b1 : Blk w1 (w.heap.size + 1) 103 #[.pointer none] := by rw [hw1]; exact Blk.new _ _ _ (by simp)
    have hB1 : Below w.heap.size w w1 := by rw [hw1]; exact ((Below.refl _ _).alloc (Nat.le_refl _) _).alloc (by simp) _
    have n1 := hbl.keep hB1
    have tL := hL.below hB1
    have tR := hR.below hB1
    have hlt1 := b1.lt
    have e0 := b0.cell (j := 0) (u := .pointer (some ⟨bl, 0, none⟩)) rfl
    have e1 := n1.cell (j := 0) (u := .int .i64 kx.off) rfl
    have e2 := n1.cell (j := 1) (u := .int .i64 kx.len) rfl
    have e4 := n1.cell (j := 4) (u := .pointer aL) rfl
    have e5 := n1.cell (j := 5) (u := .pointer aR) rfl
    clear hbl hL hR hs ht
    rw [hw1] at e0 e1 e2 e4 e5
    generalize hg : w.heap.size = g at *
    by_cases c : kx.off + kx.len < b
    · have ht' : belowT (Tr.node nw L kx R) b = joinT L kx (belowT R b) := by conv => lhs; unfold belowT
                                                                              rw [if_pos c]
      have Ht := Lib.hid ht'
      clear ht'
      obtain ⟨i1, i2, i3⟩ := belowT_is (b := b) c2 l5
      have iz := Tr.size_filter i1
      go_enter Try.func85, Try.ntmps85
      go_wp2_with fail
      rw [← hw1]
      rw [← hw1] at e0 e1 e2 e4 e5
      clear hw1
      refine wp_region_noPanic ?_
      refine wp_region_held_drew (S := (fun w' => w'.cell? ⟨g, 0, none⟩ = some (.pointer (some ⟨bl, 0, none⟩)) ∧ w'.cell? ⟨bl, 0, none⟩ = some (.int .i64 kx.off) ∧ w'.cell? ⟨bl, 1, none⟩ = some (.int .i64 kx.len))) (by kernel_rfl) ⟨b0.cell rfl, n1.cell rfl, n1.cell rfl⟩ (fun _ => ?_)
      refine wpAnyH_take (i := 0) (oi := _) (v := ?_) rfl (by kernel_rfl) (by kernel_rfl) (by kernel_rfl) (fun _ _ _ h => h) (Or.inl ⟨by kernel_rfl, ?_⟩) ⟨b0.cell rfl, n1.cell rfl, n1.cell rfl⟩ ?_
      rotate_left
      · (rintro w ⟨s0, s1, s2⟩; go_simp; (first | done | rfl))
      try simp only [Act.put, List.getElem_toArray, List.getElem_cons_zero, List.getElem_cons_succ, List.setIfInBounds_toArray, List.set_cons_zero, List.set_cons_succ]
      refine wpAnyH_take (i := 1) (oi := _) (v := ?_) rfl (by kernel_rfl) (by kernel_rfl) (by kernel_rfl) (fun _ _ _ h => h) (Or.inl ⟨by kernel_rfl, ?_⟩) ⟨b0.cell rfl, n1.cell rfl, n1.cell rfl⟩ ?_
      rotate_left
      · (rintro w ⟨s0, s1, s2⟩; go_simp; (first | done | rfl))
      try simp only [Act.put, List.getElem_toArray, List.getElem_cons_zero, List.getElem_cons_succ, List.setIfInBounds_toArray, List.set_cons_zero, List.set_cons_succ]
      refine wpAnyH_take (i := 2) (oi := _) (v := ?_) rfl (by kernel_rfl) (by kernel_rfl) (by kernel_rfl) (fun _ _ _ h => h) (Or.inl ⟨by kernel_rfl, ?_⟩) ⟨b0.cell rfl, n1.cell rfl, n1.cell rfl⟩ ?_
      rotate_left
      · (rintro w ⟨s0, s1, s2⟩; go_simp; (first | done | rfl))
      try simp only [Act.put, List.getElem_toArray, List.getElem_cons_zero, List.getElem_cons_succ, List.setIfInBounds_toArray, List.set_cons_zero, List.set_cons_succ]
      refine wpAnyH_take (i := 3) (oi := _) (v := ?_) rfl (by kernel_rfl) (by kernel_rfl) (by kernel_rfl) (fun _ _ _ h => h) (Or.inl ⟨by kernel_rfl, ?_⟩) ⟨b0.cell rfl, n1.cell rfl, n1.cell rfl⟩ ?_
      rotate_left
      · (rintro w ⟨s0, s1, s2⟩; go_simp; (first | done | rfl))
      try simp only [Act.put, List.getElem_toArray, List.getElem_cons_zero, List.getElem_cons_succ, List.setIfInBounds_toArray, List.set_cons_zero, List.set_cons_succ]
      refine wpAnyH_take (i := 4) (oi := _) (v := ?_) rfl (by kernel_rfl) (by kernel_rfl) (by kernel_rfl) (fun _ _ _ h => h) (Or.inl ⟨by kernel_rfl, ?_⟩) ⟨b0.cell rfl, n1.cell rfl, n1.cell rfl⟩ ?_
      rotate_left
      · (rintro w ⟨s0, s1, s2⟩; go_simp; (first | done | rfl))
      try simp only [Act.put, List.getElem_toArray, List.getElem_cons_zero, List.getElem_cons_succ, List.setIfInBounds_toArray, List.set_cons_zero, List.set_cons_succ]
      refine wpAnyH_take (i := 5) (oi := _) (v := ?_) rfl (by kernel_rfl) (by kernel_rfl) (by kernel_rfl) (fun _ _ _ h => h) (Or.inl ⟨by kernel_rfl, ?_⟩) ⟨b0.cell rfl, n1.cell rfl, n1.cell rfl⟩ ?_
      rotate_left
      · (rintro w ⟨s0, s1, s2⟩; go_simp; (first | done | rfl))
      try simp only [Act.put, List.getElem_toArray, List.getElem_cons_zero, List.getElem_cons_succ, List.setIfInBounds_toArray, List.set_cons_zero, List.set_cons_succ]
      refine wpAnyH_take (i := 6) (oi := _) (v := ?_) rfl (by kernel_rfl) (by kernel_rfl) (by kernel_rfl) (fun _ _ _ h => h) (Or.inl ⟨by kernel_rfl, ?_⟩) ⟨b0.cell rfl, n1.cell rfl, n1.cell rfl⟩ ?_
      rotate_left
      · (rintro w ⟨s0, s1, s2⟩; go_simp; (first | done | rfl))
      try simp only [Act.put, List.getElem_toArray, List.getElem_cons_zero, List.getElem_cons_succ, List.setIfInBounds_toArray, List.set_cons_zero, List.set_cons_succ]
      refine wpAnyH_take (i := 7) (oi := _) (v := ?_) rfl (by kernel_rfl) (by kernel_rfl) (by kernel_rfl) (fun _ _ _ h => h) (Or.inl ⟨by kernel_rfl, ?_⟩) ⟨b0.cell rfl, n1.cell rfl, n1.cell rfl⟩ ?_
      rotate_left
      · (rintro w ⟨s0, s1, s2⟩; go_simp; (first | done | rfl))
      try simp only [Act.put, List.getElem_toArray, List.getElem_cons_zero, List.getElem_cons_succ, List.setIfInBounds_toArray, List.set_cons_zero, List.set_cons_succ]
      refine wpAnyH_take (i := 8) (oi := _) (v := ?_) rfl (by kernel_rfl) (by kernel_rfl) (by kernel_rfl) (fun _ _ _ h => h) (Or.inl ⟨by kernel_rfl, ?_⟩) ⟨b0.cell rfl, n1.cell rfl, n1.cell rfl⟩ ?_
      rotate_left
      · (rintro w ⟨s0, s1, s2⟩; go_simp; (first | done | rfl))
      try simp only [Act.put, List.getElem_toArray, List.getElem_cons_zero, List.getElem_cons_succ, List.setIfInBounds_toArray, List.set_cons_zero, List.set_cons_succ]
      refine wpAnyH_take (i := 9) (oi := _) (v := ?_) rfl (by kernel_rfl) (by kernel_rfl) (by kernel_rfl) (fun _ _ _ h => h) (Or.inl ⟨by kernel_rfl, ?_⟩) ⟨b0.cell rfl, n1.cell rfl, n1.cell rfl⟩ ?_
      rotate_left
      · (rintro w ⟨s0, s1, s2⟩; go_simp; (first | done | rfl))
      try simp only [Act.put, List.getElem_toArray, List.getElem_cons_zero, List.getElem_cons_succ, List.setIfInBounds_toArray, List.set_cons_zero, List.set_cons_succ]
      refine wpAnyH_take (i := 10) (oi := _) (v := ?_) rfl (by kernel_rfl) (by kernel_rfl) (by kernel_rfl) (fun _ _ _ h => h) (Or.inl ⟨by kernel_rfl, ?_⟩) ⟨b0.cell rfl, n1.cell rfl, n1.cell rfl⟩ ?_
      rotate_left
      · (rintro w ⟨s0, s1, s2⟩; go_simp; (first | done | rfl))
      try simp only [Act.put, List.getElem_toArray, List.getElem_cons_zero, List.getElem_cons_succ, List.setIfInBounds_toArray, List.set_cons_zero, List.set_cons_succ]
      refine wpAnyH_take (i := 11) (oi := _) (v := ?_) rfl (by kernel_rfl) (by kernel_rfl) (by kernel_rfl) (fun _ _ _ h => h) (Or.inl ⟨by kernel_rfl, ?_⟩) ⟨b0.cell rfl, n1.cell rfl, n1.cell rfl⟩ ?_
      rotate_left
      · (rintro w ⟨s0, s1, s2⟩; go_simp; (first | done | rfl))
      try simp only [Act.put, List.getElem_toArray, List.getElem_cons_zero, List.getElem_cons_succ, List.setIfInBounds_toArray, List.set_cons_zero, List.set_cons_succ]
      refine wpAnyH_take (i := 12) (oi := _) (v := ?_) rfl (by kernel_rfl) (by kernel_rfl) (by kernel_rfl) (fun _ _ _ h => h) (Or.inl ⟨by kernel_rfl, ?_⟩) ⟨b0.cell rfl, n1.cell rfl, n1.cell rfl⟩ ?_
      rotate_left
      · (rintro w ⟨s0, s1, s2⟩; go_simp; (first | done | rfl))
      try simp only [Act.put, List.getElem_toArray, List.getElem_cons_zero, List.getElem_cons_succ, List.setIfInBounds_toArray, List.set_cons_zero, List.set_cons_succ]
      refine wpAnyH_take (i := 13) (oi := _) (v := ?_) rfl (by kernel_rfl) (by kernel_rfl) (by kernel_rfl) (fun _ _ _ h => h) (Or.inl ⟨by kernel_rfl, ?_⟩) ⟨b0.cell rfl, n1.cell rfl, n1.cell rfl⟩ ?_
      rotate_left
      · (rintro w ⟨s0, s1, s2⟩; go_simp; (first | done | rfl))
      try simp only [Act.put, List.getElem_toArray, List.getElem_cons_zero, List.getElem_cons_succ, List.setIfInBounds_toArray, List.set_cons_zero, List.set_cons_succ]
      refine wpAnyH_take (i := 14) (oi := _) (v := ?_) rfl (by kernel_rfl) (by kernel_rfl) (by kernel_rfl) (fun _ _ _ h => h) (Or.inl ⟨by kernel_rfl, ?_⟩) ⟨b0.cell rfl, n1.cell rfl, n1.cell rfl⟩ ?_
      rotate_left
      · (rintro w ⟨s0, s1, s2⟩; go_simp; (first | done | rfl))
      try simp only [Act.put, List.getElem_toArray, List.getElem_cons_zero, List.getElem_cons_succ, List.setIfInBounds_toArray, List.set_cons_zero, List.set_cons_succ]
      refine wpAnyH_done (by kernel_rfl) ?_ _
      refine NoPanic.normal ?_
      go_wp2_with fail
      refine wp_region_noPanic ?_
      refine wp_region_held_drew (S := (fun w' => w'.cell? ⟨g, 0, none⟩ = some (.pointer (some ⟨bl, 0, none⟩)) ∧ w'.cell? ⟨bl, 0, none⟩ = some (.int .i64 kx.off) ∧ w'.cell? ⟨bl, 1, none⟩ = some (.int .i64 kx.len) ∧ w'.cell? ⟨bl, 2, none⟩ = some (.int .i64 kx.phys) ∧ w'.cell? ⟨bl, 3, none⟩ = some (.int .i64 kx.birth) ∧ w'.cell? ⟨bl, 4, none⟩ = some (.pointer aL) ∧ w'.cell? ⟨bl, 5, none⟩ = some (.pointer aR))) (by kernel_rfl) ⟨b0.cell rfl, n1.cell rfl, n1.cell rfl, n1.cell rfl, n1.cell rfl, n1.cell rfl, n1.cell rfl⟩ (fun _ => ?_)
      refine wpAnyH_take (i := 0) (oi := _) (v := ?_) rfl (by kernel_rfl) (by kernel_rfl) (by kernel_rfl) (fun _ _ _ h => h) (Or.inl ⟨by kernel_rfl, ?_⟩) ⟨b0.cell rfl, n1.cell rfl, n1.cell rfl, n1.cell rfl, n1.cell rfl, n1.cell rfl, n1.cell rfl⟩ ?_
      rotate_left
      · (rintro w ⟨s0, s1, s2, s3, s4, s5, s6⟩; go_simp; (first | done | rfl))
      try simp only [Act.put, List.getElem_toArray, List.getElem_cons_zero, List.getElem_cons_succ, List.setIfInBounds_toArray, List.set_cons_zero, List.set_cons_succ]
      refine wpAnyH_take (i := 1) (oi := _) (v := ?_) rfl (by kernel_rfl) (by kernel_rfl) (by kernel_rfl) (fun _ _ _ h => h) (Or.inl ⟨by kernel_rfl, ?_⟩) ⟨b0.cell rfl, n1.cell rfl, n1.cell rfl, n1.cell rfl, n1.cell rfl, n1.cell rfl, n1.cell rfl⟩ ?_
      rotate_left
      · (rintro w ⟨s0, s1, s2, s3, s4, s5, s6⟩; go_simp; (first | done | rfl))
      try simp only [Act.put, List.getElem_toArray, List.getElem_cons_zero, List.getElem_cons_succ, List.setIfInBounds_toArray, List.set_cons_zero, List.set_cons_succ]
      refine wpAnyH_take (i := 2) (oi := _) (v := ?_) rfl (by kernel_rfl) (by kernel_rfl) (by kernel_rfl) (fun _ _ _ h => h) (Or.inl ⟨by kernel_rfl, ?_⟩) ⟨b0.cell rfl, n1.cell rfl, n1.cell rfl, n1.cell rfl, n1.cell rfl, n1.cell rfl, n1.cell rfl⟩ ?_
      rotate_left
      · (rintro w ⟨s0, s1, s2, s3, s4, s5, s6⟩; go_simp; (first | done | rfl))
      try simp only [Act.put, List.getElem_toArray, List.getElem_cons_zero, List.getElem_cons_succ, List.setIfInBounds_toArray, List.set_cons_zero, List.set_cons_succ]
      refine wpAnyH_take (i := 3) (oi := _) (v := ?_) rfl (by kernel_rfl) (by kernel_rfl) (by kernel_rfl) (fun _ _ _ h => h) (Or.inl ⟨by kernel_rfl, ?_⟩) ⟨b0.cell rfl, n1.cell rfl, n1.cell rfl, n1.cell rfl, n1.cell rfl, n1.cell rfl, n1.cell rfl⟩ ?_
      rotate_left
      · (rintro w ⟨s0, s1, s2, s3, s4, s5, s6⟩; go_simp; (first | done | rfl))
      try simp only [Act.put, List.getElem_toArray, List.getElem_cons_zero, List.getElem_cons_succ, List.setIfInBounds_toArray, List.set_cons_zero, List.set_cons_succ]
      refine wpAnyH_take (i := 4) (oi := _) (v := ?_) rfl (by kernel_rfl) (by kernel_rfl) (by kernel_rfl) (fun _ _ _ h => h) (Or.inl ⟨by kernel_rfl, ?_⟩) ⟨b0.cell rfl, n1.cell rfl, n1.cell rfl, n1.cell rfl, n1.cell rfl, n1.cell rfl, n1.cell rfl⟩ ?_
      rotate_left
      · (rintro w ⟨s0, s1, s2, s3, s4, s5, s6⟩; go_simp; (first | done | rfl))
      try simp only [Act.put, List.getElem_toArray, List.getElem_cons_zero, List.getElem_cons_succ, List.setIfInBounds_toArray, List.set_cons_zero, List.set_cons_succ]
      refine wpAnyH_take (i := 5) (oi := _) (v := ?_) rfl (by kernel_rfl) (by kernel_rfl) (by kernel_rfl) (fun _ _ _ h => h) (Or.inl ⟨by kernel_rfl, ?_⟩) ⟨b0.cell rfl, n1.cell rfl, n1.cell rfl, n1.cell rfl, n1.cell rfl, n1.cell rfl, n1.cell rfl⟩ ?_
      rotate_left
      · (rintro w ⟨s0, s1, s2, s3, s4, s5, s6⟩; go_simp; (first | done | rfl))
      try simp only [Act.put, List.getElem_toArray, List.getElem_cons_zero, List.getElem_cons_succ, List.setIfInBounds_toArray, List.set_cons_zero, List.set_cons_succ]
      refine wpAnyH_take (i := 6) (oi := _) (v := ?_) rfl (by kernel_rfl) (by kernel_rfl) (by kernel_rfl) (fun _ _ _ h => h) (Or.inl ⟨by kernel_rfl, ?_⟩) ⟨b0.cell rfl, n1.cell rfl, n1.cell rfl, n1.cell rfl, n1.cell rfl, n1.cell rfl, n1.cell rfl⟩ ?_
      rotate_left
      · (rintro w ⟨s0, s1, s2, s3, s4, s5, s6⟩; go_simp; (first | done | rfl))
      try simp only [Act.put, List.getElem_toArray, List.getElem_cons_zero, List.getElem_cons_succ, List.setIfInBounds_toArray, List.set_cons_zero, List.set_cons_succ]
      refine wpAnyH_take (i := 7) (oi := _) (v := ?_) rfl (by kernel_rfl) (by kernel_rfl) (by kernel_rfl) (fun _ _ _ h => h) (Or.inl ⟨by kernel_rfl, ?_⟩) ⟨b0.cell rfl, n1.cell rfl, n1.cell rfl, n1.cell rfl, n1.cell rfl, n1.cell rfl, n1.cell rfl⟩ ?_
      rotate_left
      · (rintro w ⟨s0, s1, s2, s3, s4, s5, s6⟩; go_simp; (first | done | rfl))
      try simp only [Act.put, List.getElem_toArray, List.getElem_cons_zero, List.getElem_cons_succ, List.setIfInBounds_toArray, List.set_cons_zero, List.set_cons_succ]
      refine wpAnyH_take (i := 8) (oi := _) (v := ?_) rfl (by kernel_rfl) (by kernel_rfl) (by kernel_rfl) (fun _ _ _ h => h) (Or.inl ⟨by kernel_rfl, ?_⟩) ⟨b0.cell rfl, n1.cell rfl, n1.cell rfl, n1.cell rfl, n1.cell rfl, n1.cell rfl, n1.cell rfl⟩ ?_
      rotate_left
      · (rintro w ⟨s0, s1, s2, s3, s4, s5, s6⟩; go_simp; (first | done | rfl))
      try simp only [Act.put, List.getElem_toArray, List.getElem_cons_zero, List.getElem_cons_succ, List.setIfInBounds_toArray, List.set_cons_zero, List.set_cons_succ]
      refine wpAnyH_take (i := 9) (oi := _) (v := ?_) rfl (by kernel_rfl) (by kernel_rfl) (by kernel_rfl) (fun _ _ _ h => h) (Or.inl ⟨by kernel_rfl, ?_⟩) ⟨b0.cell rfl, n1.cell rfl, n1.cell rfl, n1.cell rfl, n1.cell rfl, n1.cell rfl, n1.cell rfl⟩ ?_
      rotate_left
      · (rintro w ⟨s0, s1, s2, s3, s4, s5, s6⟩; go_simp; (first | done | rfl))
      try simp only [Act.put, List.getElem_toArray, List.getElem_cons_zero, List.getElem_cons_succ, List.setIfInBounds_toArray, List.set_cons_zero, List.set_cons_succ]
      refine wpAnyH_take (i := 10) (oi := _) (v := ?_) rfl (by kernel_rfl) (by kernel_rfl) (by kernel_rfl) (fun _ _ _ h => h) (Or.inl ⟨by kernel_rfl, ?_⟩) ⟨b0.cell rfl, n1.cell rfl, n1.cell rfl, n1.cell rfl, n1.cell rfl, n1.cell rfl, n1.cell rfl⟩ ?_
      rotate_left
      · (rintro w ⟨s0, s1, s2, s3, s4, s5, s6⟩; go_simp; (first | done | rfl))
      try simp only [Act.put, List.getElem_toArray, List.getElem_cons_zero, List.getElem_cons_succ, List.setIfInBounds_toArray, List.set_cons_zero, List.set_cons_succ]
      refine wpAnyH_take (i := 11) (oi := _) (v := ?_) rfl (by kernel_rfl) (by kernel_rfl) (by kernel_rfl) (fun _ _ _ h => h) (Or.inl ⟨by kernel_rfl, ?_⟩) ⟨b0.cell rfl, n1.cell rfl, n1.cell rfl, n1.cell rfl, n1.cell rfl, n1.cell rfl, n1.cell rfl⟩ ?_
      rotate_left
      · (rintro w ⟨s0, s1, s2, s3, s4, s5, s6⟩; go_simp; (first | done | rfl))
      try simp only [Act.put, List.getElem_toArray, List.getElem_cons_zero, List.getElem_cons_succ, List.setIfInBounds_toArray, List.set_cons_zero, List.set_cons_succ]
      refine wpAnyH_take (i := 12) (oi := _) (v := ?_) rfl (by kernel_rfl) (by kernel_rfl) (by kernel_rfl) (fun _ _ _ h => h) (Or.inl ⟨by kernel_rfl, ?_⟩) ⟨b0.cell rfl, n1.cell rfl, n1.cell rfl, n1.cell rfl, n1.cell rfl, n1.cell rfl, n1.cell rfl⟩ ?_
      rotate_left
      · (rintro w ⟨s0, s1, s2, s3, s4, s5, s6⟩; go_simp; (first | done | rfl))
      try simp only [Act.put, List.getElem_toArray, List.getElem_cons_zero, List.getElem_cons_succ, List.setIfInBounds_toArray, List.set_cons_zero, List.set_cons_succ]
      refine wpAnyH_take (i := 13) (oi := _) (v := ?_) rfl (by kernel_rfl) (by kernel_rfl) (by kernel_rfl) (fun _ _ _ h => h) (Or.inl ⟨by kernel_rfl, ?_⟩) ⟨b0.cell rfl, n1.cell rfl, n1.cell rfl, n1.cell rfl, n1.cell rfl, n1.cell rfl, n1.cell rfl⟩ ?_
      rotate_left
      · (rintro w ⟨s0, s1, s2, s3, s4, s5, s6⟩; go_simp; (first | done | rfl))
      try simp only [Act.put, List.getElem_toArray, List.getElem_cons_zero, List.getElem_cons_succ, List.setIfInBounds_toArray, List.set_cons_zero, List.set_cons_succ]
      refine wpAnyH_take (i := 14) (oi := _) (v := ?_) rfl (by kernel_rfl) (by kernel_rfl) (by kernel_rfl) (fun _ _ _ h => h) (Or.inl ⟨by kernel_rfl, ?_⟩) ⟨b0.cell rfl, n1.cell rfl, n1.cell rfl, n1.cell rfl, n1.cell rfl, n1.cell rfl, n1.cell rfl⟩ ?_
      rotate_left
      · (rintro w ⟨s0, s1, s2, s3, s4, s5, s6⟩; go_simp; (first | done | rfl))
      try simp only [Act.put, List.getElem_toArray, List.getElem_cons_zero, List.getElem_cons_succ, List.setIfInBounds_toArray, List.set_cons_zero, List.set_cons_succ]
      refine wpAnyH_take (i := 15) (oi := _) (v := ?_) rfl (by kernel_rfl) (by kernel_rfl) (by kernel_rfl) (fun _ _ _ h => h) (Or.inl ⟨by kernel_rfl, ?_⟩) ⟨b0.cell rfl, n1.cell rfl, n1.cell rfl, n1.cell rfl, n1.cell rfl, n1.cell rfl, n1.cell rfl⟩ ?_
      rotate_left
      · (rintro w ⟨s0, s1, s2, s3, s4, s5, s6⟩; go_simp; (first | done | rfl))
      try simp only [Act.put, List.getElem_toArray, List.getElem_cons_zero, List.getElem_cons_succ, List.setIfInBounds_toArray, List.set_cons_zero, List.set_cons_succ]
      refine wpAnyH_ready (rs := [16]) (by kernel_rfl) (by simp) (AllReadyH.cons (o := _) rfl (fun K hK => ?_) AllReadyH.nil)
      rw [if_pos (by kernel_rfl)]
      refine wp_fn 85 _ _ rfl _ rfl enters_below (below_ b fb R _ aR c2 l5 (by omega) _ tR.drew.drew) ?_
      rintro e w4 ⟨a4, rfl, ht4, hb4⟩
      have hB4 : Below w1.heap.size w1 w4 := below_undrew (below_undrew hb4)
      refine ⟨_, rfl, ?_⟩
      refine hK.out _ _ ⟨(b0.keep hB4).cell rfl, (n1.keep hB4).cell rfl, (n1.keep hB4).cell rfl, (n1.keep hB4).cell rfl, (n1.keep hB4).cell rfl, (n1.keep hB4).cell rfl, (n1.keep hB4).cell rfl⟩ (fun _ => ?_)
      clear hK K
      try simp only [Act.put, List.getElem_toArray, List.getElem_cons_zero, List.getElem_cons_succ, List.setIfInBounds_toArray, List.set_cons_zero, List.set_cons_succ]
      refine wpAnyH_ready (rs := [17]) (by kernel_rfl) (by simp) (AllReadyH.cons (o := _) rfl (fun K hK => ?_) AllReadyH.nil)
      rw [if_pos (by kernel_rfl)]
      refine wp_fn 86 _ _ rfl _ rfl enters_join (tjoin_ S c1 i2 (by omega) _ aL a4 kx (tL.below hB4) ht4 fkx) ?_
      rintro e w5 ⟨a5, rfl, ht5, hb5⟩
      have hB5 : Below w1.heap.size w1 w5 := below_step hB4 hb5 (Nat.le_refl _)
      refine ⟨_, rfl, ?_⟩
      refine hK.out _ _ ⟨(b0.keep hB5).cell rfl, (n1.keep hB5).cell rfl, (n1.keep hB5).cell rfl, (n1.keep hB5).cell rfl, (n1.keep hB5).cell rfl, (n1.keep hB5).cell rfl, (n1.keep hB5).cell rfl⟩ (fun _ => ?_)
      clear hK K
      try simp only [Act.put, List.getElem_toArray, List.getElem_cons_zero, List.getElem_cons_succ, List.setIfInBounds_toArray, List.set_cons_zero, List.set_cons_succ]
      refine wpAnyH_ready (rs := [18]) (by kernel_rfl) (by simp) (AllReadyH.cons (o := _) rfl (fun K hK => ?_) AllReadyH.nil)
      rw [if_pos (by kernel_rfl)]
      refine wp_store_blk 103 _ _ rfl (g + 1) 103 _ #[.pointer a5] (b1.keep hB5) rfl rfl rfl size_tree (one_ptr _) ?_
      intro w10 hk10 ht10
      refine hK.out _ _ ⟨(ht10.blk (b0.keep hB5) (by omega)).cell rfl, (ht10.blk (n1.keep hB5) (by omega)).cell rfl, (ht10.blk (n1.keep hB5) (by omega)).cell rfl, (ht10.blk (n1.keep hB5) (by omega)).cell rfl, (ht10.blk (n1.keep hB5) (by omega)).cell rfl, (ht10.blk (n1.keep hB5) (by omega)).cell rfl, (ht10.blk (n1.keep hB5) (by omega)).cell rfl⟩ (fun _ => ?_)
      clear hK K
      try simp only [Act.put, List.getElem_toArray, List.getElem_cons_zero, List.getElem_cons_succ, List.setIfInBounds_toArray, List.set_cons_zero, List.set_cons_succ]
      refine wpAnyH_done (by kernel_rfl) ?_ _
      refine NoPanic.normal ?_
      go_wp2
      refine bodyPost_ret (results_tr rfl rfl hk10) rfl ?_
      have hs1 := hB1.size
      have hB10 : Below g w w10 := (hB1.trans (hB5.mono (by omega))).trans (ht10.below (by omega) (by have := hB5.size; omega))
      rw [Ht.out]
      exact ⟨_, rfl, ht5.var (b1.keep hB5) ht10, hB10⟩
    · have ht' : belowT (Tr.node nw L kx R) b = belowT L b := by conv => lhs; unfold belowT
                                                                 rw [if_neg c]
      have Ht := Lib.hid ht'
      clear ht'
      go_enter Try.func85, Try.ntmps85
      go_wp2_with fail
      rw [← hw1]
      rw [← hw1] at e0 e1 e2 e4 e5
      clear hw1
      refine wp_region_noPanic ?_
      refine wp_region_held_drew (S := (fun w' => w'.cell? ⟨g, 0, none⟩ = some (.pointer (some ⟨bl, 0, none⟩)) ∧ w'.cell? ⟨bl, 0, none⟩ = some (.int .i64 kx.off) ∧ w'.cell? ⟨bl, 1, none⟩ = some (.int .i64 kx.len))) (by kernel_rfl) ⟨b0.cell rfl, n1.cell rfl, n1.cell rfl⟩ (fun _ => ?_)
      refine wpAnyH_take (i := 0) (oi := _) (v := ?_) rfl (by kernel_rfl) (by kernel_rfl) (by kernel_rfl) (fun _ _ _ h => h) (Or.inl ⟨by kernel_rfl, ?_⟩) ⟨b0.cell rfl, n1.cell rfl, n1.cell rfl⟩ ?_
      rotate_left
      · (rintro w ⟨s0, s1, s2⟩; go_simp; (first | done | rfl))
      try simp only [Act.put, List.getElem_toArray, List.getElem_cons_zero, List.getElem_cons_succ, List.setIfInBounds_toArray, List.set_cons_zero, List.set_cons_succ]
      refine wpAnyH_take (i := 1) (oi := _) (v := ?_) rfl (by kernel_rfl) (by kernel_rfl) (by kernel_rfl) (fun _ _ _ h => h) (Or.inl ⟨by kernel_rfl, ?_⟩) ⟨b0.cell rfl, n1.cell rfl, n1.cell rfl⟩ ?_
      rotate_left
      · (rintro w ⟨s0, s1, s2⟩; go_simp; (first | done | rfl))
      try simp only [Act.put, List.getElem_toArray, List.getElem_cons_zero, List.getElem_cons_succ, List.setIfInBounds_toArray, List.set_cons_zero, List.set_cons_succ]
      refine wpAnyH_take (i := 2) (oi := _) (v := ?_) rfl (by kernel_rfl) (by kernel_rfl) (by kernel_rfl) (fun _ _ _ h => h) (Or.inl ⟨by kernel_rfl, ?_⟩) ⟨b0.cell rfl, n1.cell rfl, n1.cell rfl⟩ ?_
      rotate_left
      · (rintro w ⟨s0, s1, s2⟩; go_simp; (first | done | rfl))
      try simp only [Act.put, List.getElem_toArray, List.getElem_cons_zero, List.getElem_cons_succ, List.setIfInBounds_toArray, List.set_cons_zero, List.set_cons_succ]
      refine wpAnyH_take (i := 3) (oi := _) (v := ?_) rfl (by kernel_rfl) (by kernel_rfl) (by kernel_rfl) (fun _ _ _ h => h) (Or.inl ⟨by kernel_rfl, ?_⟩) ⟨b0.cell rfl, n1.cell rfl, n1.cell rfl⟩ ?_
      rotate_left
      · (rintro w ⟨s0, s1, s2⟩; go_simp; (first | done | rfl))
      try simp only [Act.put, List.getElem_toArray, List.getElem_cons_zero, List.getElem_cons_succ, List.setIfInBounds_toArray, List.set_cons_zero, List.set_cons_succ]
      refine wpAnyH_take (i := 4) (oi := _) (v := ?_) rfl (by kernel_rfl) (by kernel_rfl) (by kernel_rfl) (fun _ _ _ h => h) (Or.inl ⟨by kernel_rfl, ?_⟩) ⟨b0.cell rfl, n1.cell rfl, n1.cell rfl⟩ ?_
      rotate_left
      · (rintro w ⟨s0, s1, s2⟩; go_simp; (first | done | rfl))
      try simp only [Act.put, List.getElem_toArray, List.getElem_cons_zero, List.getElem_cons_succ, List.setIfInBounds_toArray, List.set_cons_zero, List.set_cons_succ]
      refine wpAnyH_take (i := 5) (oi := _) (v := ?_) rfl (by kernel_rfl) (by kernel_rfl) (by kernel_rfl) (fun _ _ _ h => h) (Or.inl ⟨by kernel_rfl, ?_⟩) ⟨b0.cell rfl, n1.cell rfl, n1.cell rfl⟩ ?_
      rotate_left
      · (rintro w ⟨s0, s1, s2⟩; go_simp; (first | done | rfl))
      try simp only [Act.put, List.getElem_toArray, List.getElem_cons_zero, List.getElem_cons_succ, List.setIfInBounds_toArray, List.set_cons_zero, List.set_cons_succ]
      refine wpAnyH_take (i := 6) (oi := _) (v := ?_) rfl (by kernel_rfl) (by kernel_rfl) (by kernel_rfl) (fun _ _ _ h => h) (Or.inl ⟨by kernel_rfl, ?_⟩) ⟨b0.cell rfl, n1.cell rfl, n1.cell rfl⟩ ?_
      rotate_left
      · (rintro w ⟨s0, s1, s2⟩; go_simp; (first | done | rfl))
      try simp only [Act.put, List.getElem_toArray, List.getElem_cons_zero, List.getElem_cons_succ, List.setIfInBounds_toArray, List.set_cons_zero, List.set_cons_succ]
      refine wpAnyH_take (i := 7) (oi := _) (v := ?_) rfl (by kernel_rfl) (by kernel_rfl) (by kernel_rfl) (fun _ _ _ h => h) (Or.inl ⟨by kernel_rfl, ?_⟩) ⟨b0.cell rfl, n1.cell rfl, n1.cell rfl⟩ ?_
      rotate_left
      · (rintro w ⟨s0, s1, s2⟩; go_simp; (first | done | rfl))
      try simp only [Act.put, List.getElem_toArray, List.getElem_cons_zero, List.getElem_cons_succ, List.setIfInBounds_toArray, List.set_cons_zero, List.set_cons_succ]
      refine wpAnyH_take (i := 8) (oi := _) (v := ?_) rfl (by kernel_rfl) (by kernel_rfl) (by kernel_rfl) (fun _ _ _ h => h) (Or.inl ⟨by kernel_rfl, ?_⟩) ⟨b0.cell rfl, n1.cell rfl, n1.cell rfl⟩ ?_
      rotate_left
      · (rintro w ⟨s0, s1, s2⟩; go_simp; (first | done | rfl))
      try simp only [Act.put, List.getElem_toArray, List.getElem_cons_zero, List.getElem_cons_succ, List.setIfInBounds_toArray, List.set_cons_zero, List.set_cons_succ]
      refine wpAnyH_take (i := 9) (oi := _) (v := ?_) rfl (by kernel_rfl) (by kernel_rfl) (by kernel_rfl) (fun _ _ _ h => h) (Or.inl ⟨by kernel_rfl, ?_⟩) ⟨b0.cell rfl, n1.cell rfl, n1.cell rfl⟩ ?_
      rotate_left
      · (rintro w ⟨s0, s1, s2⟩; go_simp; (first | done | rfl))
      try simp only [Act.put, List.getElem_toArray, List.getElem_cons_zero, List.getElem_cons_succ, List.setIfInBounds_toArray, List.set_cons_zero, List.set_cons_succ]
      refine wpAnyH_take (i := 10) (oi := _) (v := ?_) rfl (by kernel_rfl) (by kernel_rfl) (by kernel_rfl) (fun _ _ _ h => h) (Or.inl ⟨by kernel_rfl, ?_⟩) ⟨b0.cell rfl, n1.cell rfl, n1.cell rfl⟩ ?_
      rotate_left
      · (rintro w ⟨s0, s1, s2⟩; go_simp; (first | done | rfl))
      try simp only [Act.put, List.getElem_toArray, List.getElem_cons_zero, List.getElem_cons_succ, List.setIfInBounds_toArray, List.set_cons_zero, List.set_cons_succ]
      refine wpAnyH_take (i := 11) (oi := _) (v := ?_) rfl (by kernel_rfl) (by kernel_rfl) (by kernel_rfl) (fun _ _ _ h => h) (Or.inl ⟨by kernel_rfl, ?_⟩) ⟨b0.cell rfl, n1.cell rfl, n1.cell rfl⟩ ?_
      rotate_left
      · (rintro w ⟨s0, s1, s2⟩; go_simp; (first | done | rfl))
      try simp only [Act.put, List.getElem_toArray, List.getElem_cons_zero, List.getElem_cons_succ, List.setIfInBounds_toArray, List.set_cons_zero, List.set_cons_succ]
      refine wpAnyH_take (i := 12) (oi := _) (v := ?_) rfl (by kernel_rfl) (by kernel_rfl) (by kernel_rfl) (fun _ _ _ h => h) (Or.inl ⟨by kernel_rfl, ?_⟩) ⟨b0.cell rfl, n1.cell rfl, n1.cell rfl⟩ ?_
      rotate_left
      · (rintro w ⟨s0, s1, s2⟩; go_simp; (first | done | rfl))
      try simp only [Act.put, List.getElem_toArray, List.getElem_cons_zero, List.getElem_cons_succ, List.setIfInBounds_toArray, List.set_cons_zero, List.set_cons_succ]
      refine wpAnyH_take (i := 13) (oi := _) (v := ?_) rfl (by kernel_rfl) (by kernel_rfl) (by kernel_rfl) (fun _ _ _ h => h) (Or.inl ⟨by kernel_rfl, ?_⟩) ⟨b0.cell rfl, n1.cell rfl, n1.cell rfl⟩ ?_
      rotate_left
      · (rintro w ⟨s0, s1, s2⟩; go_simp; (first | done | rfl))
      try simp only [Act.put, List.getElem_toArray, List.getElem_cons_zero, List.getElem_cons_succ, List.setIfInBounds_toArray, List.set_cons_zero, List.set_cons_succ]
      refine wpAnyH_take (i := 14) (oi := _) (v := ?_) rfl (by kernel_rfl) (by kernel_rfl) (by kernel_rfl) (fun _ _ _ h => h) (Or.inl ⟨by kernel_rfl, ?_⟩) ⟨b0.cell rfl, n1.cell rfl, n1.cell rfl⟩ ?_
      rotate_left
      · (rintro w ⟨s0, s1, s2⟩; go_simp; (first | done | rfl))
      try simp only [Act.put, List.getElem_toArray, List.getElem_cons_zero, List.getElem_cons_succ, List.setIfInBounds_toArray, List.set_cons_zero, List.set_cons_succ]
      refine wpAnyH_done (by kernel_rfl) ?_ _
      refine NoPanic.normal ?_
      go_wp2_with fail
      refine (below_ b fb L _ aL c1 l1 (by omega) _ tL.drew).mono ?_
      rintro e w4 ⟨a4, rfl, ht4, hb4⟩
      have hB4 : Below w1.heap.size w1 w4 := below_undrew hb4
      have k1 := b1.keep hB4
      have f0 := k1.free 0
      have k0 := k1.cell (j := 0) (u := .pointer none) rfl
      go_wp2
      refine bodyPost_ret (results_tr rfl rfl (k1.setCell 0 (.pointer a4))) rfl ?_
      have hs1 := hB1.size
      rw [Ht.out]
      exact ⟨_, rfl, ht4.var k1 (Tn.set _ _ _ (Nat.le_refl _) (Nat.lt_succ_self _)), (hB1.trans (hB4.mono (by omega))).trans ((Tn.set (lo := g + 1) (hi := g + 1 + 1) _ _ _ (Nat.le_refl _) (Nat.lt_succ_self _)).below (by omega) (by have := hB4.size; omega))⟩
end
end Go.Proofs.Ytfcfffilfmbpeaa

set_option linter.all false
namespace Go.Proofs.Ytfcfffilfmbpeaa
open Go.RowKit

section
variable (S : Nat → Prop)
set_option maxRecDepth 100000 in
set_option maxHeartbeats 4000000 in
theorem above_ (b : Int) (fb : I64 b) : ∀ (t : Tr) (lo : Int) (a : Option Addr), t.bal → listFrom lo t.list = true → t.size ≤ 500000 → ∀ w : World, Tree w S a t →
    Calls Try.prog 88 #[.agg #[.pointer a], .int .i64 b] w fun e w' => ∃ a', e = .returned (.agg #[.pointer a']) ∧ Tree w' S a' (aboveT t b) ∧ Below w.heap.size w w'
  | .nil, _, _, _, _, _, w, h => by
    have h : _ = none := h
    subst h
    have hB : Below w.heap.size w ((w.alloc (.cells #[.pointer none] 103)).alloc (.cells #[.pointer none] 103)) := ((Below.refl _ _).alloc (Nat.le_refl _) _).alloc (by simp) _
    have hk := Blk.new (w.alloc (.cells #[.pointer none] 103)) 103 #[.pointer none] (g := w.heap.size + 1) (by simp)
    go_enter Try.func88, Try.ntmps88
    go_wp2
    refine bodyPost_ret (results_tr rfl rfl hk) rfl ?_
    exact ⟨none, rfl, rfl, hB⟩
  | .node nw L kx R, m, a, ht, hl, hs, w, h => by
    obtain ⟨c1, c2, c3, c4⟩ := (Tr.bal_node _ _ _ _).1 ht
    obtain ⟨l1, l2, l3, l4, l5⟩ := listFrom_mid (show listFrom m (L.list ++ kx :: R.list) = true from hl)
    have hx := may_len l3
    have hsz : L.size + R.size ≤ 499999 := by simp only [Tr.size] at hs; omega
    obtain ⟨bl, aL, aR, rfl, hbl, fkx, -, hL, hR⟩ := h
    have hlbl := hbl.lt
    unfold I64 at fb
    have hwx : IntKind.i64.wrap (kx.off + kx.len) = kx.off + kx.len := by rw [IntKind.wrap_i64]; omega
    obtain ⟨w1, hw1⟩ : ∃ w1, w1 = (w.alloc (.cells #[.pointer (some ⟨bl, 0, none⟩)] 103)).alloc (.cells #[.pointer none] 103) := ⟨_, rfl⟩
    have b0 : Blk w1 w.heap.size 103 #[.pointer (some ⟨bl, 0, none⟩)] := by rw [hw1]; exact (Blk.new _ _ _ rfl).alloc _
    have b1 : Blk w1 (w.heap.size + 1) 103 #[.pointer none] := by rw [hw1]; exact Blk.new _ _ _ (by simp)
    have hB1 : Below w.heap.size w w1 := by rw [hw1]; exact ((Below.refl _ _).alloc (Nat.le_refl _) _).alloc (by simp) _
    have n1 := hbl.keep hB1
    have tL := hL.below hB1
    have tR := hR.below hB1
    have hlt1 := b1.lt
    have e0 := b0.cell (j := 0) (u := .pointer (some ⟨bl, 0, none⟩)) rfl
    have e1 := n1.cell (j := 0) (u := .int .i64 kx.off) rfl
    have e2 := n1.cell (j := 1) (u := .int .i64 kx.len) rfl
    have e4 := n1.cell (j := 4) (u := .pointer aL) rfl
    have e5 := n1.cell (j := 5) (u := .pointer aR) rfl
    clear hbl hL hR hs ht
    rw [hw1] at e0 e1 e2 e4 e5
    generalize hg : w.heap.size = g at *
    by_cases c : b < kx.off
    · have ht' : aboveT (Tr.node nw L kx R) b = joinT (aboveT L b) kx R := by conv => lhs; unfold aboveT
                                                                              rw [if_pos c]
      have Ht := Lib.hid ht'
      clear ht'
      obtain ⟨i1, i2, i3⟩ := aboveT_is (e := b) c1 l1
      have iz := Tr.size_filter i1
      go_enter Try.func88, Try.ntmps88
      go_wp2_with fail
      rw [← hw1]
      rw [← hw1] at e0 e1 e2 e4 e5
      clear hw1
      go_wp2_with fail
      refine wp_region_noPanic ?_
      refine wp_region_held_drew (S := (fun w' => w'.cell? ⟨g, 0, none⟩ = some (.pointer (some ⟨bl, 0, none⟩)) ∧ w'.cell? ⟨bl, 0, none⟩ = some (.int .i64 kx.off) ∧ w'.cell? ⟨bl, 1, none⟩ = some (.int .i64 kx.len) ∧ w'.cell? ⟨bl, 2, none⟩ = some (.int .i64 kx.phys) ∧ w'.cell? ⟨bl, 3, none⟩ = some (.int .i64 kx.birth) ∧ w'.cell? ⟨bl, 4, none⟩ = some (.pointer aL) ∧ w'.cell? ⟨bl, 5, none⟩ = some (.pointer aR))) (by kernel_rfl) ⟨b0.cell rfl, n1.cell rfl, n1.cell rfl, n1.cell rfl, n1.cell rfl, n1.cell rfl, n1.cell rfl⟩ (fun _ => ?_)
      refine wpAnyH_take (i := 0) (oi := _) (v := ?_) rfl (by kernel_rfl) (by kernel_rfl) (by kernel_rfl) (fun _ _ _ h => h) (Or.inl ⟨by kernel_rfl, ?_⟩) ⟨b0.cell rfl, n1.cell rfl, n1.cell rfl, n1.cell rfl, n1.cell rfl, n1.cell rfl, n1.cell rfl⟩ ?_
      rotate_left
      · (rintro w ⟨s0, s1, s2, s3, s4, s5, s6⟩; go_simp; (first | done | rfl))
      try simp only [Act.put, List.getElem_toArray, List.getElem_cons_zero, List.getElem_cons_succ, List.setIfInBounds_toArray, List.set_cons_zero, List.set_cons_succ]
      refine wpAnyH_take (i := 1) (oi := _) (v := ?_) rfl (by kernel_rfl) (by kernel_rfl) (by kernel_rfl) (fun _ _ _ h => h) (Or.inl ⟨by kernel_rfl, ?_⟩) ⟨b0.cell rfl, n1.cell rfl, n1.cell rfl, n1.cell rfl, n1.cell rfl, n1.cell rfl, n1.cell rfl⟩ ?_
      rotate_left
      · (rintro w ⟨s0, s1, s2, s3, s4, s5, s6⟩; go_simp; (first | done | rfl))
      try simp only [Act.put, List.getElem_toArray, List.getElem_cons_zero, List.getElem_cons_succ, List.setIfInBounds_toArray, List.set_cons_zero, List.set_cons_succ]
      refine wpAnyH_take (i := 2) (oi := _) (v := ?_) rfl (by kernel_rfl) (by kernel_rfl) (by kernel_rfl) (fun _ _ _ h => h) (Or.inl ⟨by kernel_rfl, ?_⟩) ⟨b0.cell rfl, n1.cell rfl, n1.cell rfl, n1.cell rfl, n1.cell rfl, n1.cell rfl, n1.cell rfl⟩ ?_
      rotate_left
      · (rintro w ⟨s0, s1, s2, s3, s4, s5, s6⟩; go_simp; (first | done | rfl))
      try simp only [Act.put, List.getElem_toArray, List.getElem_cons_zero, List.getElem_cons_succ, List.setIfInBounds_toArray, List.set_cons_zero, List.set_cons_succ]
      refine wpAnyH_take (i := 3) (oi := _) (v := ?_) rfl (by kernel_rfl) (by kernel_rfl) (by kernel_rfl) (fun _ _ _ h => h) (Or.inl ⟨by kernel_rfl, ?_⟩) ⟨b0.cell rfl, n1.cell rfl, n1.cell rfl, n1.cell rfl, n1.cell rfl, n1.cell rfl, n1.cell rfl⟩ ?_
      rotate_left
      · (rintro w ⟨s0, s1, s2, s3, s4, s5, s6⟩; go_simp; (first | done | rfl))
      try simp only [Act.put, List.getElem_toArray, List.getElem_cons_zero, List.getElem_cons_succ, List.setIfInBounds_toArray, List.set_cons_zero, List.set_cons_succ]
      refine wpAnyH_take (i := 4) (oi := _) (v := ?_) rfl (by kernel_rfl) (by kernel_rfl) (by kernel_rfl) (fun _ _ _ h => h) (Or.inl ⟨by kernel_rfl, ?_⟩) ⟨b0.cell rfl, n1.cell rfl, n1.cell rfl, n1.cell rfl, n1.cell rfl, n1.cell rfl, n1.cell rfl⟩ ?_
      rotate_left
      · (rintro w ⟨s0, s1, s2, s3, s4, s5, s6⟩; go_simp; (first | done | rfl))
      try simp only [Act.put, List.getElem_toArray, List.getElem_cons_zero, List.getElem_cons_succ, List.setIfInBounds_toArray, List.set_cons_zero, List.set_cons_succ]
      refine wpAnyH_take (i := 5) (oi := _) (v := ?_) rfl (by kernel_rfl) (by kernel_rfl) (by kernel_rfl) (fun _ _ _ h => h) (Or.inl ⟨by kernel_rfl, ?_⟩) ⟨b0.cell rfl, n1.cell rfl, n1.cell rfl, n1.cell rfl, n1.cell rfl, n1.cell rfl, n1.cell rfl⟩ ?_
      rotate_left
      · (rintro w ⟨s0, s1, s2, s3, s4, s5, s6⟩; go_simp; (first | done | rfl))
      try simp only [Act.put, List.getElem_toArray, List.getElem_cons_zero, List.getElem_cons_succ, List.setIfInBounds_toArray, List.set_cons_zero, List.set_cons_succ]
      refine wpAnyH_take (i := 7) (oi := _) (v := ?_) rfl (by kernel_rfl) (by kernel_rfl) (by kernel_rfl) (fun _ _ _ h => h) (Or.inl ⟨by kernel_rfl, ?_⟩) ⟨b0.cell rfl, n1.cell rfl, n1.cell rfl, n1.cell rfl, n1.cell rfl, n1.cell rfl, n1.cell rfl⟩ ?_
      rotate_left
      · (rintro w ⟨s0, s1, s2, s3, s4, s5, s6⟩; go_simp; (first | done | rfl))
      try simp only [Act.put, List.getElem_toArray, List.getElem_cons_zero, List.getElem_cons_succ, List.setIfInBounds_toArray, List.set_cons_zero, List.set_cons_succ]
      refine wpAnyH_take (i := 8) (oi := _) (v := ?_) rfl (by kernel_rfl) (by kernel_rfl) (by kernel_rfl) (fun _ _ _ h => h) (Or.inl ⟨by kernel_rfl, ?_⟩) ⟨b0.cell rfl, n1.cell rfl, n1.cell rfl, n1.cell rfl, n1.cell rfl, n1.cell rfl, n1.cell rfl⟩ ?_
      rotate_left
      · (rintro w ⟨s0, s1, s2, s3, s4, s5, s6⟩; go_simp; (first | done | rfl))
      try simp only [Act.put, List.getElem_toArray, List.getElem_cons_zero, List.getElem_cons_succ, List.setIfInBounds_toArray, List.set_cons_zero, List.set_cons_succ]
      refine wpAnyH_take (i := 9) (oi := _) (v := ?_) rfl (by kernel_rfl) (by kernel_rfl) (by kernel_rfl) (fun _ _ _ h => h) (Or.inl ⟨by kernel_rfl, ?_⟩) ⟨b0.cell rfl, n1.cell rfl, n1.cell rfl, n1.cell rfl, n1.cell rfl, n1.cell rfl, n1.cell rfl⟩ ?_
      rotate_left
      · (rintro w ⟨s0, s1, s2, s3, s4, s5, s6⟩; go_simp; (first | done | rfl))
      try simp only [Act.put, List.getElem_toArray, List.getElem_cons_zero, List.getElem_cons_succ, List.setIfInBounds_toArray, List.set_cons_zero, List.set_cons_succ]
      refine wpAnyH_take (i := 10) (oi := _) (v := ?_) rfl (by kernel_rfl) (by kernel_rfl) (by kernel_rfl) (fun _ _ _ h => h) (Or.inl ⟨by kernel_rfl, ?_⟩) ⟨b0.cell rfl, n1.cell rfl, n1.cell rfl, n1.cell rfl, n1.cell rfl, n1.cell rfl, n1.cell rfl⟩ ?_
      rotate_left
      · (rintro w ⟨s0, s1, s2, s3, s4, s5, s6⟩; go_simp; (first | done | rfl))
      try simp only [Act.put, List.getElem_toArray, List.getElem_cons_zero, List.getElem_cons_succ, List.setIfInBounds_toArray, List.set_cons_zero, List.set_cons_succ]
      refine wpAnyH_take (i := 11) (oi := _) (v := ?_) rfl (by kernel_rfl) (by kernel_rfl) (by kernel_rfl) (fun _ _ _ h => h) (Or.inl ⟨by kernel_rfl, ?_⟩) ⟨b0.cell rfl, n1.cell rfl, n1.cell rfl, n1.cell rfl, n1.cell rfl, n1.cell rfl, n1.cell rfl⟩ ?_
      rotate_left
      · (rintro w ⟨s0, s1, s2, s3, s4, s5, s6⟩; go_simp; (first | done | rfl))
      try simp only [Act.put, List.getElem_toArray, List.getElem_cons_zero, List.getElem_cons_succ, List.setIfInBounds_toArray, List.set_cons_zero, List.set_cons_succ]
      refine wpAnyH_take (i := 12) (oi := _) (v := ?_) rfl (by kernel_rfl) (by kernel_rfl) (by kernel_rfl) (fun _ _ _ h => h) (Or.inl ⟨by kernel_rfl, ?_⟩) ⟨b0.cell rfl, n1.cell rfl, n1.cell rfl, n1.cell rfl, n1.cell rfl, n1.cell rfl, n1.cell rfl⟩ ?_
      rotate_left
      · (rintro w ⟨s0, s1, s2, s3, s4, s5, s6⟩; go_simp; (first | done | rfl))
      try simp only [Act.put, List.getElem_toArray, List.getElem_cons_zero, List.getElem_cons_succ, List.setIfInBounds_toArray, List.set_cons_zero, List.set_cons_succ]
      refine wpAnyH_take (i := 13) (oi := _) (v := ?_) rfl (by kernel_rfl) (by kernel_rfl) (by kernel_rfl) (fun _ _ _ h => h) (Or.inl ⟨by kernel_rfl, ?_⟩) ⟨b0.cell rfl, n1.cell rfl, n1.cell rfl, n1.cell rfl, n1.cell rfl, n1.cell rfl, n1.cell rfl⟩ ?_
      rotate_left
      · (rintro w ⟨s0, s1, s2, s3, s4, s5, s6⟩; go_simp; (first | done | rfl))
      try simp only [Act.put, List.getElem_toArray, List.getElem_cons_zero, List.getElem_cons_succ, List.setIfInBounds_toArray, List.set_cons_zero, List.set_cons_succ]
      refine wpAnyH_take (i := 14) (oi := _) (v := ?_) rfl (by kernel_rfl) (by kernel_rfl) (by kernel_rfl) (fun _ _ _ h => h) (Or.inl ⟨by kernel_rfl, ?_⟩) ⟨b0.cell rfl, n1.cell rfl, n1.cell rfl, n1.cell rfl, n1.cell rfl, n1.cell rfl, n1.cell rfl⟩ ?_
      rotate_left
      · (rintro w ⟨s0, s1, s2, s3, s4, s5, s6⟩; go_simp; (first | done | rfl))
      try simp only [Act.put, List.getElem_toArray, List.getElem_cons_zero, List.getElem_cons_succ, List.setIfInBounds_toArray, List.set_cons_zero, List.set_cons_succ]
      refine wpAnyH_take (i := 15) (oi := _) (v := ?_) rfl (by kernel_rfl) (by kernel_rfl) (by kernel_rfl) (fun _ _ _ h => h) (Or.inl ⟨by kernel_rfl, ?_⟩) ⟨b0.cell rfl, n1.cell rfl, n1.cell rfl, n1.cell rfl, n1.cell rfl, n1.cell rfl, n1.cell rfl⟩ ?_
      rotate_left
      · (rintro w ⟨s0, s1, s2, s3, s4, s5, s6⟩; go_simp; (first | done | rfl))
      try simp only [Act.put, List.getElem_toArray, List.getElem_cons_zero, List.getElem_cons_succ, List.setIfInBounds_toArray, List.set_cons_zero, List.set_cons_succ]
      refine wpAnyH_take (i := 16) (oi := _) (v := ?_) rfl (by kernel_rfl) (by kernel_rfl) (by kernel_rfl) (fun _ _ _ h => h) (Or.inl ⟨by kernel_rfl, ?_⟩) ⟨b0.cell rfl, n1.cell rfl, n1.cell rfl, n1.cell rfl, n1.cell rfl, n1.cell rfl, n1.cell rfl⟩ ?_
      rotate_left
      · (rintro w ⟨s0, s1, s2, s3, s4, s5, s6⟩; go_simp; (first | done | rfl))
      try simp only [Act.put, List.getElem_toArray, List.getElem_cons_zero, List.getElem_cons_succ, List.setIfInBounds_toArray, List.set_cons_zero, List.set_cons_succ]
      refine wpAnyH_ready (rs := [6]) (by kernel_rfl) (by simp) (AllReadyH.cons (o := _) rfl (fun K hK => ?_) AllReadyH.nil)
      rw [if_pos (by kernel_rfl)]
      refine wp_fn 88 _ _ rfl _ rfl enters_above (above_ b fb L _ aL c1 l1 (by omega) _ tL.drew) ?_
      rintro e w4 ⟨a4, rfl, ht4, hb4⟩
      have hB4 : Below w1.heap.size w1 w4 := below_undrew hb4
      refine ⟨_, rfl, ?_⟩
      refine hK.out _ _ ⟨(b0.keep hB4).cell rfl, (n1.keep hB4).cell rfl, (n1.keep hB4).cell rfl, (n1.keep hB4).cell rfl, (n1.keep hB4).cell rfl, (n1.keep hB4).cell rfl, (n1.keep hB4).cell rfl⟩ (fun _ => ?_)
      clear hK K
      try simp only [Act.put, List.getElem_toArray, List.getElem_cons_zero, List.getElem_cons_succ, List.setIfInBounds_toArray, List.set_cons_zero, List.set_cons_succ]
      refine wpAnyH_ready (rs := [17]) (by kernel_rfl) (by simp) (AllReadyH.cons (o := _) rfl (fun K hK => ?_) AllReadyH.nil)
      rw [if_pos (by kernel_rfl)]
      refine wp_fn 86 _ _ rfl _ rfl enters_join (tjoin_ S i2 c2 (by omega) _ a4 aR kx ht4 (tR.below hB4) fkx) ?_
      rintro e w5 ⟨a5, rfl, ht5, hb5⟩
      have hB5 : Below w1.heap.size w1 w5 := below_step hB4 hb5 (Nat.le_refl _)
      refine ⟨_, rfl, ?_⟩
      refine hK.out _ _ ⟨(b0.keep hB5).cell rfl, (n1.keep hB5).cell rfl, (n1.keep hB5).cell rfl, (n1.keep hB5).cell rfl, (n1.keep hB5).cell rfl, (n1.keep hB5).cell rfl, (n1.keep hB5).cell rfl⟩ (fun _ => ?_)
      clear hK K
      try simp only [Act.put, List.getElem_toArray, List.getElem_cons_zero, List.getElem_cons_succ, List.setIfInBounds_toArray, List.set_cons_zero, List.set_cons_succ]
      refine wpAnyH_ready (rs := [18]) (by kernel_rfl) (by simp) (AllReadyH.cons (o := _) rfl (fun K hK => ?_) AllReadyH.nil)
      rw [if_pos (by kernel_rfl)]
      refine wp_store_blk 103 _ _ rfl (g + 1) 103 _ #[.pointer a5] (b1.keep hB5) rfl rfl rfl size_tree (one_ptr _) ?_
      intro w10 hk10 ht10
      refine hK.out _ _ ⟨(ht10.blk (b0.keep hB5) (by omega)).cell rfl, (ht10.blk (n1.keep hB5) (by omega)).cell rfl, (ht10.blk (n1.keep hB5) (by omega)).cell rfl, (ht10.blk (n1.keep hB5) (by omega)).cell rfl, (ht10.blk (n1.keep hB5) (by omega)).cell rfl, (ht10.blk (n1.keep hB5) (by omega)).cell rfl, (ht10.blk (n1.keep hB5) (by omega)).cell rfl⟩ (fun _ => ?_)
      clear hK K
      try simp only [Act.put, List.getElem_toArray, List.getElem_cons_zero, List.getElem_cons_succ, List.setIfInBounds_toArray, List.set_cons_zero, List.set_cons_succ]
      refine wpAnyH_done (by kernel_rfl) ?_ _
      refine NoPanic.normal ?_
      go_wp2
      refine bodyPost_ret (results_tr rfl rfl hk10) rfl ?_
      have hs1 := hB1.size
      have hB10 : Below g w w10 := (hB1.trans (hB5.mono (by omega))).trans (ht10.below (by omega) (by have := hB5.size; omega))
      rw [Ht.out]
      exact ⟨_, rfl, ht5.var (b1.keep hB5) ht10, hB10⟩
    · have ht' : aboveT (Tr.node nw L kx R) b = aboveT R b := by conv => lhs; unfold aboveT
                                                                 rw [if_neg c]
      have Ht := Lib.hid ht'
      clear ht'
      go_enter Try.func88, Try.ntmps88
      go_wp2_with fail
      rw [← hw1]
      rw [← hw1] at e0 e1 e2 e4 e5
      clear hw1
      go_wp2_with fail
      refine (above_ b fb R _ aR c2 l5 (by omega) _ tR).mono ?_
      rintro e w4 ⟨a4, rfl, ht4, hb4⟩
      have hB4 : Below w1.heap.size w1 w4 := hb4
      have k1 := b1.keep hB4
      have f0 := k1.free 0
      have k0 := k1.cell (j := 0) (u := .pointer none) rfl
      go_wp2
      refine bodyPost_ret (results_tr rfl rfl (k1.setCell 0 (.pointer a4))) rfl ?_
      have hs1 := hB1.size
      rw [Ht.out]
      exact ⟨_, rfl, ht4.var k1 (Tn.set _ _ _ (Nat.le_refl _) (Nat.lt_succ_self _)), (hB1.trans (hB4.mono (by omega))).trans ((Tn.set (lo := g + 1) (hi := g + 1 + 1) _ _ _ (Nat.le_refl _) (Nat.lt_succ_self _)).below (by omega) (by have := hB4.size; omega))⟩
end
end Go.Proofs.Ytfcfffilfmbpeaa
