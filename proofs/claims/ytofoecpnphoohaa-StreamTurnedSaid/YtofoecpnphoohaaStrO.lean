/- Layer 10: the document's Same. -/
import Derived.Test.YtofoecpnphoohaaStrN
set_option linter.all false
namespace Go.Proofs.Ytofoecpnphoohaa
open Go.RowKit
namespace Str
open Blo (I64)
abbrev K8o (w : World) (b o : Nat) (r : Rec) (d : Value) : Prop := w.cell? ⟨b, o, none⟩ = some (.int .i64 r.k) ∧ w.cell? ⟨b, o + 1, none⟩ = some (.int .i64 r.sh) ∧ w.cell? ⟨b, o + 2, none⟩ = some (.int .i64 r.sn) ∧ w.cell? ⟨b, o + 3, none⟩ = some (.int .i64 r.ba) ∧ w.cell? ⟨b, o + 4, none⟩ = some (.int .i64 r.ma) ∧ w.cell? ⟨b, o + 5, none⟩ = some (.int .i64 r.off) ∧ w.cell? ⟨b, o + 6, none⟩ = some (.int .i64 r.len) ∧ w.cell? ⟨b, o + 7, none⟩ = some d
theorem k8o_below {w w' : World} {b o : Nat} {r : Rec} {d : Value} (h : K8o w b o r d) (hb : Below w.heap.size w w') : K8o w' b o r d := by
  obtain ⟨h0, h1, h2, h3, h4, h5, h6, h7⟩ := h
  have g : ∀ {p : Addr} {u : Value}, w.cell? p = some u → w'.cell? p = some u := fun h => (hb.cell (cell_lt h)).trans h
  exact ⟨g h0, g h1, g h2, g h3, g h4, g h5, g h6, g h7⟩
theorem k8o_drew {w : World} {b o : Nat} {r : Rec} {d : Value} (h : K8o w b o r d) : K8o w.drew b o r d := h
theorem rdt_drew {w : World} {r : Rec} {X : Option Addr} {m c : Nat} (h : Rdt w r X m c) : Rdt w.drew r X m c := ⟨h.ns.drew, h.nil, h.le, h.cap, h.by8, h.fit⟩
section
variable (w : World)
theorem one_t (x y : Rec) (X Y : Option Addr) (m c p d : Nat) (dx : Rdt w x X m c) (dy : Rdt w y Y p d) (h : x = y) :
    Calls Try.prog 14 #[.agg (ra x (.slice X m c)), .agg (ra y (.slice Y p d))] w fun e w' => e = .returned (.bool true) ∧ Below w.heap.size w w' := by
  have := one_ w x y X Y m c p d dx dy
  rwa [decide_eq_true h] at this
theorem one_f (x y : Rec) (X Y : Option Addr) (m c p d : Nat) (dx : Rdt w x X m c) (dy : Rdt w y Y p d) (h : ¬ x = y) :
    Calls Try.prog 14 #[.agg (ra x (.slice X m c)), .agg (ra y (.slice Y p d))] w fun e w' => e = .returned (.bool false) ∧ Below w.heap.size w w' := by
  have := one_ w x y X Y m c p d dx dy
  rwa [decide_eq_false h] at this
set_option maxRecDepth 100000 in
set_option maxHeartbeats 4000000 in
theorem rsame_ (A B : Option Addr) (n m c d : Nat) (l l' : List Rec) (ha : Rcl w A n l) (hb : Rcl w B m l') (hn : n ≤ 9223372036854775807) (hm : m ≤ 9223372036854775807) :
    Calls Try.prog 11 #[.slice A n c, .slice B m d] w fun e w' => e = .returned (.bool (decide (l = l'))) ∧ Below w.heap.size w w' := by
  have Han := Lib.hid ha.len
  have Hbm := Lib.hid hb.len
  obtain ⟨R, hR⟩ : ∃ R, decide (l = l') = R := ⟨_, rfl⟩
  rw [hR]
  by_cases hnm : n = m
  · subst hnm
    have HR := Lib.hid hR
    clear hR
    go_enter Try.func11, Try.ntmps11
    go_wp2_with fail
    go_loopw [5] (fun iv wr => ∃ i : Nat, i ≤ n ∧ iv = .int .i64 (i : Int) ∧ Hid (decide (l.drop i = l'.drop i) = R) ∧ Below w.heap.size w wr) (fun iv _ => n - (intOf iv).toNat)
    case atStart => exact ⟨0, Nat.zero_le _, rfl, Lib.hid HR.out, Below.refl _ _⟩
    case round =>
      obtain ⟨i, hi, rfl, HL, hbw⟩ := hrel
      by_cases hlt : i < n
      · have hil : (i : Int) < (n : Int) := by omega
        have hi0 : (0 : Int) ≤ (i : Int) := by omega
        obtain ⟨p, o, X, xm, xc, x, rfl, hx, rcx, dx⟩ := (ha.below hbw).at_ hlt
        obtain ⟨q, r, Y, ym, yc, y, rfl, hy, rcy, dy⟩ := (hb.below hbw).at_ hlt
        have kx : K8o wr p (o + i * 8) x (.slice X xm xc) := rcx.all
        have ky : K8o wr q (r + i * 8) y (.slice Y ym yc) := rcy.all
        have hL := HL.out
        rw [Blo.drop_of hx, Blo.drop_of hy] at hL
        clear ha hb rcx rcy hx hy HL
        by_cases hxy : x = y
        · have Hxy := Lib.hid hxy
          clear hxy
          go_wp2_with fail
          refine wp_region_noPanic ?_
          refine wp_region_held_drew (S := (fun w' => K8o w' p (o + i * 8) x (.slice X xm xc) ∧ K8o w' q (r + i * 8) y (.slice Y ym yc))) (by kernel_rfl) ⟨k8o_drew kx, k8o_drew ky⟩ (fun _ => ?_)
          refine wpAnyH_take (i := 0) (oi := _) (v := ?_) rfl (by kernel_rfl) (by kernel_rfl) (by kernel_rfl) (fun _ _ _ h => h) (Or.inl ⟨by kernel_rfl, ?_⟩) ⟨k8o_drew kx, k8o_drew ky⟩ ?_
          rotate_left
          · (rintro w ⟨⟨s0, s1, s2, s3, s4, s5, s6, s7⟩, ⟨u0, u1, u2, u3, u4, u5, u6, u7⟩⟩; go_simp; (first | done | rfl))
          try simp only [Act.put, List.getElem_toArray, List.getElem_cons_zero, List.getElem_cons_succ, List.setIfInBounds_toArray, List.set_cons_zero, List.set_cons_succ]
          refine wpAnyH_take (i := 1) (oi := _) (v := ?_) rfl (by kernel_rfl) (by kernel_rfl) (by kernel_rfl) (fun _ _ _ h => h) (Or.inl ⟨by kernel_rfl, ?_⟩) ⟨k8o_drew kx, k8o_drew ky⟩ ?_
          rotate_left
          · (rintro w ⟨⟨s0, s1, s2, s3, s4, s5, s6, s7⟩, ⟨u0, u1, u2, u3, u4, u5, u6, u7⟩⟩; go_simp; (first | done | rfl))
          try simp only [Act.put, List.getElem_toArray, List.getElem_cons_zero, List.getElem_cons_succ, List.setIfInBounds_toArray, List.set_cons_zero, List.set_cons_succ]
          refine wpAnyH_take (i := 2) (oi := _) (v := ?_) rfl (by kernel_rfl) (by kernel_rfl) (by kernel_rfl) (fun _ _ _ h => h) (Or.inl ⟨by kernel_rfl, ?_⟩) ⟨k8o_drew kx, k8o_drew ky⟩ ?_
          rotate_left
          · (rintro w ⟨⟨s0, s1, s2, s3, s4, s5, s6, s7⟩, ⟨u0, u1, u2, u3, u4, u5, u6, u7⟩⟩; go_simp; (first | done | rfl))
          try simp only [Act.put, List.getElem_toArray, List.getElem_cons_zero, List.getElem_cons_succ, List.setIfInBounds_toArray, List.set_cons_zero, List.set_cons_succ]
          refine wpAnyH_take (i := 3) (oi := _) (v := ?_) rfl (by kernel_rfl) (by kernel_rfl) (by kernel_rfl) (fun _ _ _ h => h) (Or.inl ⟨by kernel_rfl, ?_⟩) ⟨k8o_drew kx, k8o_drew ky⟩ ?_
          rotate_left
          · (rintro w ⟨⟨s0, s1, s2, s3, s4, s5, s6, s7⟩, ⟨u0, u1, u2, u3, u4, u5, u6, u7⟩⟩; go_simp; (first | done | rfl))
          try simp only [Act.put, List.getElem_toArray, List.getElem_cons_zero, List.getElem_cons_succ, List.setIfInBounds_toArray, List.set_cons_zero, List.set_cons_succ]
          refine wpAnyH_take (i := 4) (oi := _) (v := ?_) rfl (by kernel_rfl) (by kernel_rfl) (by kernel_rfl) (fun _ _ _ h => h) (Or.inl ⟨by kernel_rfl, ?_⟩) ⟨k8o_drew kx, k8o_drew ky⟩ ?_
          rotate_left
          · (rintro w ⟨⟨s0, s1, s2, s3, s4, s5, s6, s7⟩, ⟨u0, u1, u2, u3, u4, u5, u6, u7⟩⟩; go_simp; (first | done | rfl))
          try simp only [Act.put, List.getElem_toArray, List.getElem_cons_zero, List.getElem_cons_succ, List.setIfInBounds_toArray, List.set_cons_zero, List.set_cons_succ]
          refine wpAnyH_take (i := 5) (oi := _) (v := ?_) rfl (by kernel_rfl) (by kernel_rfl) (by kernel_rfl) (fun _ _ _ h => h) (Or.inl ⟨by kernel_rfl, ?_⟩) ⟨k8o_drew kx, k8o_drew ky⟩ ?_
          rotate_left
          · (rintro w ⟨⟨s0, s1, s2, s3, s4, s5, s6, s7⟩, ⟨u0, u1, u2, u3, u4, u5, u6, u7⟩⟩; go_simp; (first | done | rfl))
          try simp only [Act.put, List.getElem_toArray, List.getElem_cons_zero, List.getElem_cons_succ, List.setIfInBounds_toArray, List.set_cons_zero, List.set_cons_succ]
          refine wpAnyH_take (i := 6) (oi := _) (v := ?_) rfl (by kernel_rfl) (by kernel_rfl) (by kernel_rfl) (fun _ _ _ h => h) (Or.inl ⟨by kernel_rfl, ?_⟩) ⟨k8o_drew kx, k8o_drew ky⟩ ?_
          rotate_left
          · (rintro w ⟨⟨s0, s1, s2, s3, s4, s5, s6, s7⟩, ⟨u0, u1, u2, u3, u4, u5, u6, u7⟩⟩; go_simp; (first | done | rfl))
          try simp only [Act.put, List.getElem_toArray, List.getElem_cons_zero, List.getElem_cons_succ, List.setIfInBounds_toArray, List.set_cons_zero, List.set_cons_succ]
          refine wpAnyH_take (i := 7) (oi := _) (v := ?_) rfl (by kernel_rfl) (by kernel_rfl) (by kernel_rfl) (fun _ _ _ h => h) (Or.inl ⟨by kernel_rfl, ?_⟩) ⟨k8o_drew kx, k8o_drew ky⟩ ?_
          rotate_left
          · (rintro w ⟨⟨s0, s1, s2, s3, s4, s5, s6, s7⟩, ⟨u0, u1, u2, u3, u4, u5, u6, u7⟩⟩; go_simp; (first | done | rfl))
          try simp only [Act.put, List.getElem_toArray, List.getElem_cons_zero, List.getElem_cons_succ, List.setIfInBounds_toArray, List.set_cons_zero, List.set_cons_succ]
          refine wpAnyH_ready (rs := [8]) (by kernel_rfl) (by simp) (AllReadyH.cons (o := _) rfl (fun K hK => ?_) AllReadyH.nil)
          rw [if_pos (by kernel_rfl)]
          refine wp_fn 14 _ _ rfl _ rfl enters_One (one_t _ x y X Y xm xc ym yc (rdt_drew dx) (rdt_drew dy) Hxy.out) ?_
          rintro e w2 ⟨rfl, hb2⟩
          have hB2 : Below wr.heap.size wr w2 := Blo.below_undrew hb2
          refine ⟨_, rfl, ?_⟩
          refine hK.out _ _ ⟨k8o_below kx hB2, k8o_below ky hB2⟩ (fun _ => ?_)
          clear hK K
          try simp only [Act.put, List.getElem_toArray, List.getElem_cons_zero, List.getElem_cons_succ, List.setIfInBounds_toArray, List.set_cons_zero, List.set_cons_succ]
          refine wpAnyH_take (i := 9) (oi := _) (v := ?_) rfl (by kernel_rfl) (by kernel_rfl) (by kernel_rfl) (fun _ _ _ h => h) (Or.inl ⟨by kernel_rfl, ?_⟩) ⟨k8o_below kx hB2, k8o_below ky hB2⟩ ?_
          rotate_left
          · (rintro w ⟨⟨s0, s1, s2, s3, s4, s5, s6, s7⟩, ⟨u0, u1, u2, u3, u4, u5, u6, u7⟩⟩; go_simp; (first | done | rfl))
          try simp only [Act.put, List.getElem_toArray, List.getElem_cons_zero, List.getElem_cons_succ, List.setIfInBounds_toArray, List.set_cons_zero, List.set_cons_succ]
          refine wpAnyH_done (by kernel_rfl) ?_ _
          refine NoPanic.normal ?_
          have hL2 := Lib.hid (show decide (l.drop (i + 1) = l'.drop (i + 1)) = R by rw [← hL, Hxy.out, Blo.cons_eq])
          clear hL
          go_wp2
          go_roundw
          case rel => exact ⟨i + 1, by omega, by go_num, hL2, hbw.trans (hB2.mono hbw.size)⟩
          case measure => simp [intOf]; omega
        · have hRf : R = false := by rw [← hL, Blo.cons_ne _ _ hxy]
          subst hRf
          have Hxy := Lib.hid hxy
          clear hL hxy
          go_wp2_with fail
          refine wp_region_noPanic ?_
          refine wp_region_held_drew (S := (fun w' => K8o w' p (o + i * 8) x (.slice X xm xc) ∧ K8o w' q (r + i * 8) y (.slice Y ym yc))) (by kernel_rfl) ⟨k8o_drew kx, k8o_drew ky⟩ (fun _ => ?_)
          refine wpAnyH_take (i := 0) (oi := _) (v := ?_) rfl (by kernel_rfl) (by kernel_rfl) (by kernel_rfl) (fun _ _ _ h => h) (Or.inl ⟨by kernel_rfl, ?_⟩) ⟨k8o_drew kx, k8o_drew ky⟩ ?_
          rotate_left
          · (rintro w ⟨⟨s0, s1, s2, s3, s4, s5, s6, s7⟩, ⟨u0, u1, u2, u3, u4, u5, u6, u7⟩⟩; go_simp; (first | done | rfl))
          try simp only [Act.put, List.getElem_toArray, List.getElem_cons_zero, List.getElem_cons_succ, List.setIfInBounds_toArray, List.set_cons_zero, List.set_cons_succ]
          refine wpAnyH_take (i := 1) (oi := _) (v := ?_) rfl (by kernel_rfl) (by kernel_rfl) (by kernel_rfl) (fun _ _ _ h => h) (Or.inl ⟨by kernel_rfl, ?_⟩) ⟨k8o_drew kx, k8o_drew ky⟩ ?_
          rotate_left
          · (rintro w ⟨⟨s0, s1, s2, s3, s4, s5, s6, s7⟩, ⟨u0, u1, u2, u3, u4, u5, u6, u7⟩⟩; go_simp; (first | done | rfl))
          try simp only [Act.put, List.getElem_toArray, List.getElem_cons_zero, List.getElem_cons_succ, List.setIfInBounds_toArray, List.set_cons_zero, List.set_cons_succ]
          refine wpAnyH_take (i := 2) (oi := _) (v := ?_) rfl (by kernel_rfl) (by kernel_rfl) (by kernel_rfl) (fun _ _ _ h => h) (Or.inl ⟨by kernel_rfl, ?_⟩) ⟨k8o_drew kx, k8o_drew ky⟩ ?_
          rotate_left
          · (rintro w ⟨⟨s0, s1, s2, s3, s4, s5, s6, s7⟩, ⟨u0, u1, u2, u3, u4, u5, u6, u7⟩⟩; go_simp; (first | done | rfl))
          try simp only [Act.put, List.getElem_toArray, List.getElem_cons_zero, List.getElem_cons_succ, List.setIfInBounds_toArray, List.set_cons_zero, List.set_cons_succ]
          refine wpAnyH_take (i := 3) (oi := _) (v := ?_) rfl (by kernel_rfl) (by kernel_rfl) (by kernel_rfl) (fun _ _ _ h => h) (Or.inl ⟨by kernel_rfl, ?_⟩) ⟨k8o_drew kx, k8o_drew ky⟩ ?_
          rotate_left
          · (rintro w ⟨⟨s0, s1, s2, s3, s4, s5, s6, s7⟩, ⟨u0, u1, u2, u3, u4, u5, u6, u7⟩⟩; go_simp; (first | done | rfl))
          try simp only [Act.put, List.getElem_toArray, List.getElem_cons_zero, List.getElem_cons_succ, List.setIfInBounds_toArray, List.set_cons_zero, List.set_cons_succ]
          refine wpAnyH_take (i := 4) (oi := _) (v := ?_) rfl (by kernel_rfl) (by kernel_rfl) (by kernel_rfl) (fun _ _ _ h => h) (Or.inl ⟨by kernel_rfl, ?_⟩) ⟨k8o_drew kx, k8o_drew ky⟩ ?_
          rotate_left
          · (rintro w ⟨⟨s0, s1, s2, s3, s4, s5, s6, s7⟩, ⟨u0, u1, u2, u3, u4, u5, u6, u7⟩⟩; go_simp; (first | done | rfl))
          try simp only [Act.put, List.getElem_toArray, List.getElem_cons_zero, List.getElem_cons_succ, List.setIfInBounds_toArray, List.set_cons_zero, List.set_cons_succ]
          refine wpAnyH_take (i := 5) (oi := _) (v := ?_) rfl (by kernel_rfl) (by kernel_rfl) (by kernel_rfl) (fun _ _ _ h => h) (Or.inl ⟨by kernel_rfl, ?_⟩) ⟨k8o_drew kx, k8o_drew ky⟩ ?_
          rotate_left
          · (rintro w ⟨⟨s0, s1, s2, s3, s4, s5, s6, s7⟩, ⟨u0, u1, u2, u3, u4, u5, u6, u7⟩⟩; go_simp; (first | done | rfl))
          try simp only [Act.put, List.getElem_toArray, List.getElem_cons_zero, List.getElem_cons_succ, List.setIfInBounds_toArray, List.set_cons_zero, List.set_cons_succ]
          refine wpAnyH_take (i := 6) (oi := _) (v := ?_) rfl (by kernel_rfl) (by kernel_rfl) (by kernel_rfl) (fun _ _ _ h => h) (Or.inl ⟨by kernel_rfl, ?_⟩) ⟨k8o_drew kx, k8o_drew ky⟩ ?_
          rotate_left
          · (rintro w ⟨⟨s0, s1, s2, s3, s4, s5, s6, s7⟩, ⟨u0, u1, u2, u3, u4, u5, u6, u7⟩⟩; go_simp; (first | done | rfl))
          try simp only [Act.put, List.getElem_toArray, List.getElem_cons_zero, List.getElem_cons_succ, List.setIfInBounds_toArray, List.set_cons_zero, List.set_cons_succ]
          refine wpAnyH_take (i := 7) (oi := _) (v := ?_) rfl (by kernel_rfl) (by kernel_rfl) (by kernel_rfl) (fun _ _ _ h => h) (Or.inl ⟨by kernel_rfl, ?_⟩) ⟨k8o_drew kx, k8o_drew ky⟩ ?_
          rotate_left
          · (rintro w ⟨⟨s0, s1, s2, s3, s4, s5, s6, s7⟩, ⟨u0, u1, u2, u3, u4, u5, u6, u7⟩⟩; go_simp; (first | done | rfl))
          try simp only [Act.put, List.getElem_toArray, List.getElem_cons_zero, List.getElem_cons_succ, List.setIfInBounds_toArray, List.set_cons_zero, List.set_cons_succ]
          refine wpAnyH_ready (rs := [8]) (by kernel_rfl) (by simp) (AllReadyH.cons (o := _) rfl (fun K hK => ?_) AllReadyH.nil)
          rw [if_pos (by kernel_rfl)]
          refine wp_fn 14 _ _ rfl _ rfl enters_One (one_f _ x y X Y xm xc ym yc (rdt_drew dx) (rdt_drew dy) Hxy.out) ?_
          rintro e w2 ⟨rfl, hb2⟩
          have hB2 : Below wr.heap.size wr w2 := Blo.below_undrew hb2
          refine ⟨_, rfl, ?_⟩
          refine hK.out _ _ ⟨k8o_below kx hB2, k8o_below ky hB2⟩ (fun _ => ?_)
          clear hK K
          try simp only [Act.put, List.getElem_toArray, List.getElem_cons_zero, List.getElem_cons_succ, List.setIfInBounds_toArray, List.set_cons_zero, List.set_cons_succ]
          refine wpAnyH_take (i := 9) (oi := _) (v := ?_) rfl (by kernel_rfl) (by kernel_rfl) (by kernel_rfl) (fun _ _ _ h => h) (Or.inl ⟨by kernel_rfl, ?_⟩) ⟨k8o_below kx hB2, k8o_below ky hB2⟩ ?_
          rotate_left
          · (rintro w ⟨⟨s0, s1, s2, s3, s4, s5, s6, s7⟩, ⟨u0, u1, u2, u3, u4, u5, u6, u7⟩⟩; go_simp; (first | done | rfl))
          try simp only [Act.put, List.getElem_toArray, List.getElem_cons_zero, List.getElem_cons_succ, List.setIfInBounds_toArray, List.set_cons_zero, List.set_cons_succ]
          refine wpAnyH_done (by kernel_rfl) ?_ _
          refine NoPanic.normal ?_
          go_wp2
          go_ret
          exact ⟨rfl, hbw.trans (hB2.mono hbw.size)⟩
      · have hin : (n : Int) ≤ (i : Int) := by omega
        have h1 : l.drop i = [] := List.drop_of_length_le (by have := Han.out; omega)
        have h2 : l'.drop i = [] := List.drop_of_length_le (by have := Hbm.out; omega)
        have hL := HL.out
        rw [h1, h2] at hL
        have hL2 : true = R := by rw [← hL]; simp
        subst hL2
        clear h1 h2 hL HL
        go_wp2
        go_ret
        exact ⟨rfl, hbw⟩
  · have hR2 : R = false := by
      rw [← hR]
      simp only [decide_eq_false_iff_not]
      intro e
      exact hnm (by rw [Han.out, Hbm.out, e])
    subst hR2
    have h4 : ¬ (n : Int) = (m : Int) := by omega
    clear hR hnm
    go_enter Try.func11, Try.ntmps11
    go_wp2
    go_ret
    exact ⟨rfl, Below.refl _ _⟩
end
end Str
end Go.Proofs.Ytofoecpnphoohaa
