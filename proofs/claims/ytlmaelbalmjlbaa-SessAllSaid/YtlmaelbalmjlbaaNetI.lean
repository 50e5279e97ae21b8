/- Layer 15: the document's Reader: Part. -/
import Derived.Test.YtlmaelbalmjlbaaNetH
set_option linter.all false
namespace Go.Proofs.Ytlmaelbalmjlbaa
open Go.RowKit
namespace Net
set_option maxRecDepth 100000 in
set_option maxHeartbeats 4000000 in
theorem rfpart_ (br : Nat) (xs : List UInt8) (s : RS) (w : World) (h : Rfs w br xs s) (hx : xs.length ≤ 140737488355328) :
    Calls Try.prog 50 #[.pointer (some ⟨br, 0, none⟩)] w fun r w' => ∃ v, r = .returned v ∧ w'.ownsRow w.heap.size 5 1 v (rPart xs s).1.length (bvs (rPart xs s).1) ∧ Rfs w' br xs (rPart xs s).2 ∧ w.grownBy w' (some br) := by
  obtain ⟨p, e, f⟩ := s
  have h : Rf w br xs p e f := h
  by_cases he : e = 0
  · obtain rfl := h.none_f he
    subst he
    by_cases hp : xs.length < p + 8
    · have HR := Lib.hid (show rPart xs ⟨p, 0, 0⟩ = ([], ⟨p, 3, xs.length⟩) by simp [rPart, hp])
      go_enter Try.func50, Try.ntmps50
      go_wp2_with fail
      refine (peek_end br xs p _ h hp).mono ?_
      rintro r w' ⟨rfl, hr, hg⟩
      obtain ⟨c1, c2, c3, f1, f2, f3⟩ := hr.cells
      go_wp2_with fail
      go_quiet (fail)
      go_wp2
      go_ret
      rw [HR.out]
      exact ⟨_, rfl, own_nil _ _ _ _, hr.drewN _, grown_drewN hg _⟩
    · have hl := h.lt
      have h2 : p + 8 ≤ xs.length := by omega
      have hnl := numAt_lt (xs.drop p)
      by_cases hlt : 2147483648 < numAt (xs.drop p)
      · have HR := Lib.hid (show rPart xs ⟨p, 0, 0⟩ = ([], ⟨p, 6, p⟩) by simp [rPart, hp, hlt])
        generalize hN : numAt (xs.drop p) = N at *
        have HN := Lib.hid hN
        have hlt' : (2147483648 : Int) < (N : Int) := by omega
        clear hN
        go_enter Try.func50, Try.ntmps50
        go_wp2_with fail
        refine (peek_ok br xs p _ h h2).mono ?_
        rw [HN.out]
        rintro r w' ⟨rfl, k, rfl⟩
        obtain ⟨c1, c2, c3, f1, f2, f3⟩ := (h.drewN k).cells
        go_wp2_with fail
        refine (fails_new br xs p _ (h.drewN k) 6 p (by decide)).mono ?_
        rintro r w' ⟨rfl, hr, hg⟩
        obtain ⟨c1, c2, c3, f1, f2, f3⟩ := hr.cells
        go_wp2_with fail
        go_quiet (fail)
        go_wp2
        go_ret
        rw [HR.out]
        exact ⟨_, rfl, own_nil _ _ _ _, hr.drewN _, grown_drewN (grown_of_drewN hg) _⟩
      · obtain ⟨A, n, c, hb, hs, hne, hA, hnc, hc, _⟩ := id h
        have c0 := hb.cell (j := 0) (u := .slice A n c) rfl
        have Hn := Lib.hid hs.len
        have hp8 : p + 8 ≤ n := by have := hs.len; omega
        have hwr : IntKind.u64.wrap ((n : Int) - p - 8) = (n : Int) - p - 8 := by rw [IntKind.wrap_u64]; omega
        have hlt' : ¬ (2147483648 : Int) < (numAt (xs.drop p) : Int) := by omega
        by_cases hlt2 : n < p + 8 + numAt (xs.drop p)
        · have HR := Lib.hid (show rPart xs ⟨p, 0, 0⟩ = ([], ⟨p, 3, xs.length⟩) by have := Hn.out; simp [rPart, hp, hlt, show xs.length < p + 8 + numAt (xs.drop p) by omega])
          generalize hN : numAt (xs.drop p) = N at *
          have HN := Lib.hid hN
          have t0 : (n : Int) - p - 8 < (N : Int) := by omega
          clear hN hs
          go_enter Try.func50, Try.ntmps50
          go_wp2_with fail
          refine (peek_ok br xs p _ h h2).mono ?_
          rw [HN.out]
          rintro r w' ⟨rfl, k, rfl⟩
          obtain ⟨c1, c2, c3, f1, f2, f3⟩ := h.cells
          go_wp2_with fail
          go_quiet (fail)
          go_wp2_with fail
          refine (fails_new br xs p _ (h.drewN _) 3 n (by decide)).mono ?_
          rintro r w' ⟨rfl, hr, hg⟩
          obtain ⟨c1, c2, c3, f1, f2, f3⟩ := hr.cells
          go_wp2
          go_ret
          rw [HR.out]
          rw [Hn.out] at hr
          exact ⟨_, rfl, own_nil _ _ _ _, hr, grown_of_drewN hg⟩
        · have HR := Lib.hid (show rPart xs ⟨p, 0, 0⟩ = ((xs.drop (p + 8)).take (numAt (xs.drop p)), ⟨p + 8 + numAt (xs.drop p), 0, 0⟩) by have := Hn.out; simp [rPart, hp, hlt, show ¬ xs.length < p + 8 + numAt (xs.drop p) by omega])
          obtain ⟨b, o, rfl, _⟩ := hs.at_ (k := 0) (by omega)
          have hbs : ∀ N, p + 8 + N ≤ n → Bs w (if c = p + 8 then some ⟨b, o, none⟩ else some ⟨b, o + (p + 8), none⟩) N ((xs.drop (p + 8)).take N) := fun N hN => by
            have h1 := (hs.drop (k := p + 8) (cap := c) (by omega) hnc).take (k := N) (by omega)
            simpa [add_plain] using h1
          have hN0 : p + 8 + numAt (xs.drop p) ≤ n := by omega
          have hxl : n ≤ 140737488355328 := by have := Hn.out; omega
          generalize hN : numAt (xs.drop p) = N at *
          have HN := Lib.hid hN
          have hbsN := Lib.hid (hbs N hN0)
          have hbne := hne ⟨b, o, none⟩ rfl
          have h0 := Lib.hid h
          clear hN hb hs hbs hne
          have t0 : ¬ (n : Int) - p - 8 < (N : Int) := by omega
          have t1 : (p : Int) + 8 ≤ (p : Int) + 8 + N := by omega
          have t2 : (p : Int) + 8 + N ≤ (n : Int) := by omega
          have t3 : (0 : Int) ≤ (p : Int) + 8 := by omega
          have t4 : (p : Int) + 8 + N ≤ (c : Int) := by omega
          have t5 : p + 8 + N ≤ c := by omega
          have t6 : p + 8 ≤ c := by omega
          have hcases : c = p + 8 ∨ ¬ c = p + 8 := Decidable.em _
          have HlenN := Lib.hid (show ((xs.drop (p + 8)).take N).length = N by rw [List.length_take, List.length_drop]; have := Hn.out; omega)
          have hend : p + 8 + N ≤ xs.length := by have := Hn.out; omega
          obtain ⟨i0, hi0, hz0, hz1, hz2⟩ := info_parts info_u8
          have Hz := Lib.hid hz2
          clear hz2
          obtain ⟨ys, hys⟩ : ∃ ys, (xs.drop (p + 8)).take N = ys := ⟨_, rfl⟩
          rw [hys] at hbsN HR HlenN
          clear hys
          rcases hcases with hcc | hcc
          · subst hcc
            obtain rfl : N = 0 := by omega
            obtain rfl : ys = [] := List.eq_nil_of_length_eq_zero HlenN.out
            have hbsN' := hbsN.out
            rw [if_pos rfl] at hbsN'
            clear hbsN
            simp only [Nat.add_zero] at *
            go_enter Try.func50, Try.ntmps50
            go_wp2_with fail
            refine (peek_ok br xs p _ h h2).mono ?_
            rw [HN.out]
            rintro r w' ⟨rfl, k, rfl⟩
            obtain ⟨c1, c2, c3, f1, f2, f3⟩ := h.cells
            go_wp2_with fail
            go_quiet (fail)
            go_wp2_with fail
            have hg : Rf ((w.drewN (k + nq)).setCell ⟨br, 1, none⟩ (.int .i64 ((p : Int) + 8))) br xs (p + 8) 0 0 := (h.drewN (k + nq)).go (p + 8) hend
            have hgr : w.grownBy ((w.drewN (k + nq)).setCell ⟨br, 1, none⟩ (.int .i64 ((p : Int) + 8))) (some br) := grown_of_drewN (grown_setCell _ _ _)
            have hbsW := hbsN'.grown hgr (fun a ha => by intro e; injection e with e; injection ha with ha; subst ha; simp only at e; omega)
            have hz0' : ((w.drewN (k + nq)).setCell ⟨br, 1, none⟩ (.int .i64 ((p : Int) + 8))).cell? ⟨br, 0, none⟩ = some (.slice (some ⟨b, o, none⟩) n (p + 8)) := (World.cell?_setCell_other _ _ _ _ (by simp)).trans c0
            have hz1' : ((w.drewN (k + nq)).setCell ⟨br, 1, none⟩ (.int .i64 ((p : Int) + 8))).cell? ⟨br, 1, none⟩ = some (.int .i64 ((p : Int) + 8)) := World.cell?_setCell_same _ _ _ c1
            have hsz : w.heap.size ≤ ((w.drewN (k + nq)).setCell ⟨br, 1, none⟩ (.int .i64 ((p : Int) + 8))).heap.size := hgr.size
            have hst : ((p : Int) + 8).toNat = p + 8 := by omega
            generalize (w.drewN (k + nq)).setCell ⟨br, 1, none⟩ (.int .i64 ((p : Int) + 8)) = W at *
            clear c0 c1 c2 c3 f1 f2 f3 h
            go_region_held3 (fun w' => w'.cell? ⟨br, 0, none⟩ = some (.slice (some ⟨b, o, none⟩) n (p + 8)) ∧ w'.cell? ⟨br, 1, none⟩ = some (.int .i64 ((p : Int) + 8))) (first | go_keep | exact ⟨(hb2.cell (cell_lt hz0')).trans hz0', (hb2.cell (cell_lt hz1')).trans hz1'⟩)
              (first
                | (refine step_app _ rfl (.const (.slice none 0 0)) (.tmp 79) _ rfl w.heap.size 5 i0 (.int .u8 0) 1 1 Try.underlying34 hi0 hz0 hz1 Hz.out rfl Nat.one_pos (.slice none 0 0) 0 [] rfl (own_nil _ _ _ _) _ 0 _ (bvs []) rfl (fun h => by cases h) (Bs.drew hbsW) (bvs_one _) (by unfold maxLen; omega) (by omega) hsz ?_
                   intro v2 w2 hown2 hg2 hat2
                   have hb2 : Below W.heap.size W w2 := grown_none_below ⟨hg2.os, hg2.tape, hg2.output, hg2.size, hg2.block⟩))
            go_wp2
            go_ret
            rw [HR.out]
            rw [Nat.zero_add, List.nil_append] at hown2
            exact ⟨v2, rfl, by simpa using hown2, hg.below hb2, hgr.trans (below_grown hb2 _)⟩
          · have hbsN' := hbsN.out
            rw [if_neg hcc] at hbsN'
            clear hbsN
            go_enter Try.func50, Try.ntmps50
            go_wp2_with fail
            refine (peek_ok br xs p _ h h2).mono ?_
            rw [HN.out]
            rintro r w' ⟨rfl, k, rfl⟩
            obtain ⟨c1, c2, c3, f1, f2, f3⟩ := h.cells
            go_wp2_with fail
            go_quiet (fail)
            go_wp2_with fail
            have hg : Rf ((w.drewN (k + nq)).setCell ⟨br, 1, none⟩ (.int .i64 ((p : Int) + 8 + N))) br xs (p + 8 + N) 0 0 := (h.drewN (k + nq)).go (p + 8 + N) hend
            have hgr : w.grownBy ((w.drewN (k + nq)).setCell ⟨br, 1, none⟩ (.int .i64 ((p : Int) + 8 + N))) (some br) := grown_of_drewN (grown_setCell _ _ _)
            have hbsW := hbsN'.grown hgr (fun a ha => by intro e; injection e with e; injection ha with ha; subst ha; simp only at e; omega)
            have hz0' : ((w.drewN (k + nq)).setCell ⟨br, 1, none⟩ (.int .i64 ((p : Int) + 8 + N))).cell? ⟨br, 0, none⟩ = some (.slice (some ⟨b, o, none⟩) n c) := (World.cell?_setCell_other _ _ _ _ (by simp)).trans c0
            have hz1' : ((w.drewN (k + nq)).setCell ⟨br, 1, none⟩ (.int .i64 ((p : Int) + 8 + N))).cell? ⟨br, 1, none⟩ = some (.int .i64 ((p : Int) + 8 + N)) := World.cell?_setCell_same _ _ _ c1
            have hsz : w.heap.size ≤ ((w.drewN (k + nq)).setCell ⟨br, 1, none⟩ (.int .i64 ((p : Int) + 8 + N))).heap.size := hgr.size
            have hst : ((p : Int) + 8 + N).toNat = p + 8 + N := by omega
            have hst2 : ((p : Int) + 8).toNat = p + 8 := by omega
            have hst3 : p + 8 + N - (p + 8) = N := by omega
            generalize (w.drewN (k + nq)).setCell ⟨br, 1, none⟩ (.int .i64 ((p : Int) + 8 + N)) = W at *
            clear c0 c1 c2 c3 f1 f2 f3 h
            go_region_held3 (fun w' => w'.cell? ⟨br, 0, none⟩ = some (.slice (some ⟨b, o, none⟩) n c) ∧ w'.cell? ⟨br, 1, none⟩ = some (.int .i64 ((p : Int) + 8 + N))) (first | go_keep | exact ⟨(hb2.cell (cell_lt hz0')).trans hz0', (hb2.cell (cell_lt hz1')).trans hz1'⟩)
              (first
                | (refine step_app _ rfl (.const (.slice none 0 0)) (.tmp 79) _ rfl w.heap.size 5 i0 (.int .u8 0) 1 1 Try.underlying34 hi0 hz0 hz1 Hz.out rfl Nat.one_pos (.slice none 0 0) 0 [] rfl (own_nil _ _ _ _) _ N _ (bvs ys) rfl (fun h => by cases h) (Bs.drew hbsW) (bvs_one _) (by unfold maxLen; omega) (by omega) hsz ?_
                   intro v2 w2 hown2 hg2 hat2
                   have hb2 : Below W.heap.size W w2 := grown_none_below ⟨hg2.os, hg2.tape, hg2.output, hg2.size, hg2.block⟩))
            go_wp2
            go_ret
            rw [HR.out]
            rw [Nat.zero_add, List.nil_append] at hown2
            exact ⟨v2, rfl, by rw [HlenN.out]; exact hown2, hg.below hb2, hgr.trans (below_grown hb2 _)⟩
  · have HR := Lib.hid (show rPart xs ⟨p, e, f⟩ = ([], ⟨p, e, f⟩) by simp [rPart, he])
    obtain ⟨c1, c2, c3, f1, f2, f3⟩ := h.cells
    have t : ((e : Int) == 0) = false := by simpa using he
    have t2 : ((e : Int) != 0) = true := by simpa using he
    go_enter Try.func50, Try.ntmps50
    go_wp2_with fail
    refine (peek_had br xs p e f _ h he).mono ?_
    rintro r w' ⟨rfl, rfl⟩
    go_wp2_with fail
    go_quiet (fail)
    go_wp2
    go_ret
    rw [HR.out]
    exact ⟨_, rfl, own_nil _ _ _ _, h.drewN _, grown_drewN (World.grownBy.refl _ _) _⟩
end Net
end Go.Proofs.Ytlmaelbalmjlbaa
