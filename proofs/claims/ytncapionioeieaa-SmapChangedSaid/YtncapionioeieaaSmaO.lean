/- Layer 13: a piece of a row of the call's own that is written over in one field; the document's Move. -/
import Derived.Test.YtncapionioeieaaSmaK
set_option linter.all false
namespace Go.Proofs.Ytncapionioeieaa
open Go.RowKit
namespace Sma

theorem po_upd {w : World} {base : Nat} {v : Value} {n : Nat} {l1 l2 : List Pc} {p : Pc} (h : Po w base v n (l1 ++ p :: l2)) :
    ∃ g cap, v = .slice (some ⟨g, 0, none⟩) n cap ∧ n ≤ cap ∧ cap ≤ maxLen ∧ base ≤ g ∧ g < w.heap.size ∧ n = l1.length + 1 + l2.length ∧
      w.cell? ⟨g, l1.length * 3, none⟩ = some (.int .i64 p.fr) ∧ w.cell? ⟨g, l1.length * 3 + 1, none⟩ = some (.int .i64 p.en) ∧ w.cell? ⟨g, l1.length * 3 + 2, none⟩ = some (.int .i64 p.nd) ∧
      (∀ j, w.frozen? ⟨g, j, none⟩ = false) ∧
      ∀ (j : Nat) (u : Value) (p' : Pc), j < 3 → pv p' = (pv p).set j u → Po (w.setCell ⟨g, l1.length * 3 + j, none⟩ u) base v n (l1 ++ p' :: l2) := by
  have hl := po_len h
  rw [List.length_append, List.length_cons] at hl
  rcases h.2 with ⟨_, h0⟩ | ⟨g, cap, cur, rfl, hg, hh, hnc, hcm, hcs, hx⟩
  · omega
  have hb : Blk w g 58 cur := hh
  have hc : ∀ j (u : Value), (pv p)[j]? = some u → w.cell? ⟨g, l1.length * 3 + j, none⟩ = some u := fun j u hu => by
    refine hb.cell ?_
    have hj : j < 3 := by have := (List.getElem?_eq_some_iff.1 hu).1; rwa [pv_len] at this
    have h1 : (pvs (l1 ++ p :: l2))[l1.length * 3 + j]? = some u := by
      rw [pvs_app, List.getElem?_append_right (by rw [pvs_len]; omega), pvs_len, Nat.add_sub_cancel_left, pvs_cons, List.getElem?_append_left (by rw [pv_len]; omega)]
      exact hu
    rw [← hx, List.getElem?_take] at h1
    split at h1
    · simpa using h1
    · cases h1
  refine ⟨g, cap, rfl, hnc, hcm, hg, hb.lt, by omega, hc 0 _ rfl, hc 1 _ rfl, hc 2 _ rfl, fun j => hb.free j, fun j u p' hj hp' => ⟨?_, .inr ⟨g, cap, cur.setIfInBounds (l1.length * 3 + j) u, rfl, hg, hb.setCell _ _, hnc, hcm, by simp [hcs], ?_⟩⟩⟩
  · rw [pvs_len]; simp; omega
  · rw [Array.toList_setIfInBounds, List.take_set, hx, pvs_app, pvs_app, List.set_append_right _ _ (by rw [pvs_len]; omega), pvs_len, Nat.add_sub_cancel_left, pvs_cons, pvs_cons, List.set_append_left _ _ (by rw [pv_len]; omega), hp']
section
variable (w : World)
set_option maxRecDepth 100000 in
set_option maxHeartbeats 2000000 in
theorem rmove_ (m : Mp) (A : Option Addr) (k c : Nat) (h : Mr w m A k c) (a nd : Int) (ha : I64 a) (hnd : I64 nd) : Calls Try.prog 26 #[mv m A k c, .int .i64 a, .int .i64 nd] w fun e w' => RAns w w' e (moveA m a nd) := by
  have hn := h.n
  have hnd0 := hnd
  unfold I64 at hn hnd
  have hbx : Below w.heap.size w ((w.alloc (rmo m A k c)).alloc rzo) := ((Below.refl w.heap.size w).alloc (Nat.le_refl _) _).alloc (by simp) _
  have hbk := (Blk.new w 25 #[.int .i64 m.v, .int .i64 m.n, .slice A k c] rfl).alloc rzo
  have hq := Blk.new (w.alloc (rmo m A k c)) 25 #[.int .i64 0, .int .i64 0, .slice none 0 0] (g := w.heap.size + 1) (by simp)
  have hm1 := h.below hbx
  have hsz : ((w.alloc (rmo m A k c)).alloc rzo).heap.size = w.heap.size + 2 := by simp
  simp only [mv]
  clear h
  by_cases hbad : (findA m a).2 ≠ 0
  · have HR := Lib.hid (show moveA m a nd = (zM, (findA m a).2) by
      cases hr : m.right with
      | false => rw [move_no hr, find_no hr]
      | true =>
        by_cases h1 : a < 0 ∨ m.n ≤ a
        · rw [move_none hr h1, find_none hr h1]
        · obtain ⟨pre, p, post, hat⟩ := at_of hr (a := a) (by omega) (by omega)
          rw [find_at hr hat] at hbad
          simp at hbad)
    go_enter Try.func26, Try.ntmps26
    go_wp2_with fail
    generalize ((w.alloc (rmo m A k c)).alloc rzo) = w1 at *
    refine (rfind_ _ m A k c hm1 a ha).mono ?_
    obtain ⟨er, her⟩ : ∃ er, er = (findA m a).2 := ⟨_, rfl⟩
    rw [← her] at hbad
    have t0 : (er != 0) = true := by simpa using hbad
    have Her := Lib.hid her
    rw [← her]
    rintro e w2 ⟨rfl, hb2⟩
    clear her hbad
    have hq2 := hq.keep hb2
    obtain ⟨x0, x1, x2, f0, f1, f2⟩ := cells3 hq2
    go_wp2
    refine bodyPost_ret (results_r rfl rfl (blk_set3 hq2 (.int .i64 0) (.int .i64 0) (.slice none 0 0))) rfl ?_
    exact rans_zero (by rw [HR.out, ← Her.out]) (below_set3 (below_step hbx hb2 (by omega)) (by omega) (Nat.le_refl _) _ _ _)
  · have hr : m.right = true := by
      cases hr : m.right with
      | true => rfl
      | false => rw [find_no hr] at hbad; simp at hbad
    have h1 : ¬ (a < 0 ∨ m.n ≤ a) := fun h1 => by rw [find_none hr h1] at hbad; simp at hbad
    obtain ⟨pre, p, post, hat⟩ := at_of hr (a := a) (by omega) (by omega)
    obtain ⟨b, o, rfl, hik, fp, -, -, -⟩ := at_cells hm1 hat.get
    have HS := Lib.hid (move_at (nd := nd) hr hat)
    have hlen := hm1.len
    have hrr := right_is hr
    have hk16 : k ≤ 16 := by omega
    have hv1 : 1 ≤ m.v := hrr.1.1
    have hv2 : m.v ≤ 1099511627776 := hrr.1.2
    obtain ⟨ff, fe, fn⟩ := fp.all
    obtain ⟨i, hi⟩ : ∃ i, pre.length = i := ⟨_, rfl⟩
    have Hi := Lib.hid hi
    have Hps := Lib.hid hat.ps
    have Hf := Lib.hid (show findA m a = ((i : Int), 0) by rw [find_at hr hat, hi])
    have Hget := Lib.hid (show m.ps[i]? = some p by rw [← hi]; exact hat.get)
    rw [hi] at hik
    clear hlen hrr hat hi hbad h1
    have hi0 : (0 : Int) ≤ (i : Int) := by omega
    have hiK : (i : Int) < (k : Int) := by omega
    go_enter Try.func26, Try.ntmps26
    go_wp2_with fail
    generalize ((w.alloc (rmo m (some ⟨b, o, none⟩) k c)).alloc rzo) = w1 at *
    refine (rfind_ _ m _ k c hm1 a ha).mono ?_
    rw [Hf.out]
    rintro e w3 ⟨rfl, hb3⟩
    have hq3 := hq.keep hb3
    have hbk3 := hbk.keep hb3
    have hm3 := hm1.below hb3
    have hB3 := below_step hbx hb3 (by omega)
    have hs3 := hb3.size
    clear hq hbk hm1 hb3
    simp only
    cases h2 : ndB nd with
    | false =>
      have HR := Lib.hid (show moveA m a nd = (zM, 1) by rw [HS.out, if_pos h2])
      obtain ⟨x0, x1, x2, f0, f1, f2⟩ := cells3 hq3
      go_wp2_with fail
      refine (rnode_ _ nd hnd0).mono ?_
      rw [h2]
      rintro e w4 ⟨rfl, rfl⟩
      go_wp2
      refine bodyPost_ret (results_r rfl rfl (blk_set3 hq3 (.int .i64 0) (.int .i64 0) (.slice none 0 0))) rfl ?_
      exact rans_zero HR.out (below_set3 hB3 (by omega) (Nat.le_refl _) _ _ _)
    | true =>
      go_wp2_with fail
      refine (rnode_ _ nd hnd0).mono ?_
      rw [h2]
      rintro e w4 ⟨rfl, rfl⟩
      obtain ⟨d0, d1, d2, -, -, -⟩ := cells3 hbk3
      obtain ⟨b', o', e', -, -, p0, p1, p2⟩ := at_cells hm3 Hget.out
      injection e' with e'
      injection e' with e1 e2
      subst e1 e2
      by_cases hfr : p.nd = nd
      · have t0 : (p.nd == nd) = true := by simpa using hfr
        have HR := Lib.hid (show moveA m a nd = (zM, 10) by rw [HS.out, if_neg (by simp [h2]), if_pos hfr])
        obtain ⟨x0, x1, x2, f0, f1, f2⟩ := cells3 hq3
        clear hfr
        go_wp2
        refine bodyPost_ret (results_r rfl rfl (blk_set3 hq3 (.int .i64 0) (.int .i64 0) (.slice none 0 0))) rfl ?_
        exact rans_zero HR.out (below_set3 hB3 (by omega) (Nat.le_refl _) _ _ _)
      · have t0 : (p.nd == nd) = false := by simpa using hfr
        have HR := Lib.hid (show moveA m a nd = nextA m (pre ++ ⟨p.fr, p.en, nd⟩ :: post) by rw [HS.out, if_neg (by simp [h2]), if_neg hfr]; rfl)
        obtain ⟨i0, hi0', hz0, hz1, hz2⟩ := pc_info
        have Hz := Lib.hid hz2
        clear hfr hz2
        have hnk : 0 + k ≤ maxLen := by unfold maxLen; omega
        have hnb : (0 + k) * 24 ≤ 140737488355328 := by omega
        go_wp2_with (first
          | (at_builtin
             go_must (refine wpList_app _ rfl (.const (.slice none 0 0)) (.tmp 35) _ rfl w3.heap.size 58 i0 _ 3 24 Try.underlying23 hi0' hz0 hz1 Hz.out rfl (by omega) (.slice none 0 0) 0 [] rfl (own_nil _ _ _ _) (some ⟨b, o, none⟩) k c (pvs m.ps) rfl (fun h => by cases h) hm3.ps.rd (pvs_one _) hnk hnb (Nat.le_refl _) ?_)
             intro v5 w5 hown5 hg5 hat5
             simp only [Nat.zero_add, List.nil_append] at hown5
             rw [Hps.out] at hown5
             have hb5 : Below w3.heap.size w3 w5 := (Below.refl _ _).grown hg5 (Nat.le_refl _) (fun k hk => by cases hk)
             obtain ⟨g, cap, rfl, hkc5, hcm5, hg5, hgl5, -, r0, r1, r2, fz, hset⟩ := po_upd hown5
             rw [Hi.out] at r0 r1 r2 hset
             have fz2 := fz (i * 3 + 2)
             have hbk5 := hbk3.keep hb5
             have hs5 := hb5.size
             obtain ⟨y0, y1, y2, -, -, -⟩ := cells3 hbk5)
          | fail)
        have hown6 : Po (w5.setCell ⟨g, i * 3 + 2, none⟩ (.int .i64 nd)) w3.heap.size (.slice (some ⟨g, 0, none⟩) k cap) k (pre ++ ⟨p.fr, p.en, nd⟩ :: post) := hset 2 _ _ (by omega) rfl
        have hb6 : Below w3.heap.size w3 (w5.setCell ⟨g, i * 3 + 2, none⟩ (.int .i64 nd)) := hb5.setCell hg5 _
        have hq6 := hq3.keep hb6
        have hbk6 := hbk3.keep hb6
        have hm6 := hm3.below hb6
        have hB6 := below_step hB3 hb6 (by omega)
        have hs6 := hb6.size
        have hfit : ∀ x ∈ pre ++ (⟨p.fr, p.en, nd⟩ : Pc) :: post, Fit x := fun x hx => by
          have hall := hm3.ps.fit
          rw [Hps.out] at hall
          rcases List.mem_append.1 hx with hx | hx
          · exact hall x (by simp [hx])
          · rcases List.mem_cons.1 hx with rfl | hx
            · exact ⟨fp.fr, fp.en, hnd0⟩
            · exact hall x (by simp [hx])
        unfold maxLen at hcm5
        refine (rnext_ _ m _ k c hm6 hv1 hv2 (some ⟨g, 0, none⟩) k cap _ (po_ps hown6 hfit) hkc5 hcm5 (fun h => by cases h)).mono ?_
        obtain ⟨r, hr6⟩ : ∃ r, r = moveA m a nd := ⟨_, rfl⟩
        rw [← HR.out, ← hr6]
        rintro e w9 ⟨A9, k9, c9, rfl, g9, hA9, hb9⟩
        have Hr6 := Lib.hid hr6
        have hq9 := hq6.keep hb9
        have hB9 := below_step hB6 hb9 (by omega)
        obtain ⟨x0, x1, x2, f0, f1, f2⟩ := cells3 hq9
        have hne9 : ∀ a, A9 = some a → a.block ≠ w.heap.size + 1 := fun a e => by
          rcases hA9 with h9 | h9
          · rw [h9] at e; cases e
          · rw [h9] at e
            injection e with e
            rw [← e]
            simp only
            omega
        clear hr6 y0 y1 y2 d0 d1 d2 p0 p1 p2 r0 r1 r2 hbk3 hq3 hq6 hbk6 hm3 hm6 hset hb9 hs6 hsz hs3 hown5 hown6
        go_wp2
        refine bodyPost_ret (results_r rfl rfl (blk_set3 hq9 (.int .i64 r.1.v) (.int .i64 r.1.n) (.slice A9 k9 c9))) rfl ?_
        rw [← Hr6.out]
        exact rans_set (q := w.heap.size + 1) g9 hne9 (by omega) hB9 _ _ _
end
end Sma
end Go.Proofs.Ytncapionioeieaa
