/- Layer 13: Move. -/
import Derived.Test.YtncapionioeieaaSmaF
set_option linter.all false
namespace Go.Proofs.Ytncapionioeieaa
open Go.RowKit
namespace Sma

section
variable (w : World)
set_option maxRecDepth 100000 in
set_option maxHeartbeats 2000000 in
theorem move_ (m : Mp) (A : Option Addr) (k c : Nat) (h : Mr w m A k c) (a nd : Int) (ha : I64 a) (hnd : I64 nd) : Calls Try.prog 25 #[mv m A k c, .int .i64 a, .int .i64 nd] w fun e w' => Ans w w' e (moveA m a nd) := by
  have hn := h.n
  have hnd0 := hnd
  unfold I64 at hn hnd
  have hbx : Below w.heap.size w ((w.alloc (mo m A k c)).alloc zo) := ((Below.refl w.heap.size w).alloc (Nat.le_refl _) _).alloc (by simp) _
  have hbk := (Blk.new w 26 #[.int .i64 m.v, .int .i64 m.n, .slice A k c] rfl).alloc zo
  have hq := Blk.new (w.alloc (mo m A k c)) 26 #[.int .i64 0, .int .i64 0, .slice none 0 0] (g := w.heap.size + 1) (by simp)
  have hm1 := h.below hbx
  have hsz : ((w.alloc (mo m A k c)).alloc zo).heap.size = w.heap.size + 2 := by simp
  simp only [mv]
  clear h
  by_cases hbad : (findA m a).2 ≠ 0
  · have HR := Lib.hid (show moveA m a nd = (zM, (findA m a).2) by
      cases hr : m.right with
      | false => rw [move_no hr, find_no hr]
      | true =>
        by_cases h1 : a < 0 ∨ m.n ≤ a
        · rw [move_none hr h1, find_none hr h1]
        · obtain ⟨pre, p, post, hat⟩ := at_of hr (a := a) (by omega) (by omega)
          rw [find_at hr hat] at hbad
          simp at hbad)
    go_enter Try.func25, Try.ntmps25
    go_wp2_with fail
    generalize ((w.alloc (mo m A k c)).alloc zo) = w1 at *
    refine (find_ _ m A k c hm1 a ha).mono ?_
    obtain ⟨i, er⟩ : ∃ i, i = (findA m a).1 := ⟨_, rfl⟩
    obtain ⟨er, her⟩ : ∃ er, er = (findA m a).2 := ⟨_, rfl⟩
    rw [← her] at hbad
    have t0 : (er != 0) = true := by simpa using hbad
    have Her := Lib.hid her
    rw [← her]
    rintro e w2 ⟨rfl, hb2⟩
    clear her hbad
    have hq2 := hq.keep hb2
    obtain ⟨x0, x1, x2, f0, f1, f2⟩ := cells3 hq2
    go_wp2
    refine bodyPost_ret (results_m rfl rfl (blk_set3 hq2 (.int .i64 0) (.int .i64 0) (.slice none 0 0))) rfl ?_
    exact ans_zero (by rw [HR.out, ← Her.out]) (below_set3 (below_step hbx hb2 (by omega)) (by omega) (Nat.le_refl _) _ _ _)
  · have hr : m.right = true := by
      cases hr : m.right with
      | true => rfl
      | false => rw [find_no hr] at hbad; simp at hbad
    have h1 : ¬ (a < 0 ∨ m.n ≤ a) := fun h1 => by rw [find_none hr h1] at hbad; simp at hbad
    obtain ⟨pre, p, post, hat⟩ := at_of hr (a := a) (by omega) (by omega)
    obtain ⟨b, o, rfl, hik, fp, -, -, -⟩ := at_cells hm1 hat.get
    have HS := Lib.hid (move_at (nd := nd) hr hat)
    have hlen := hm1.len
    have hrr := right_is hr
    have hk16 : k ≤ 16 := by omega
    have hv1 : 1 ≤ m.v := hrr.1.1
    have hv2 : m.v ≤ 1099511627776 := hrr.1.2
    obtain ⟨ff, fe, fn⟩ := fp.all
    obtain ⟨i, hi⟩ : ∃ i, pre.length = i := ⟨_, rfl⟩
    have Hf := Lib.hid (show findA m a = ((i : Int), 0) by rw [find_at hr hat, hi])
    have Hget := Lib.hid (show m.ps[i]? = some p by rw [← hi]; exact hat.get)
    have Htake := Lib.hid (show m.ps.take i = pre by rw [← hi]; exact hat.take)
    have Hdrop := Lib.hid (show m.ps.drop (i + 1) = post by rw [← hi]; exact hat.drop)
    rw [hi] at hik
    clear hlen hrr hat hi hbad h1
    have hi0 : (0 : Int) ≤ (i : Int) := by omega
    have hiK : (i : Int) < (k : Int) := by omega
    go_enter Try.func25, Try.ntmps25
    go_wp2_with fail
    generalize ((w.alloc (mo m (some ⟨b, o, none⟩) k c)).alloc zo) = w1 at *
    refine (find_ _ m _ k c hm1 a ha).mono ?_
    rw [Hf.out]
    rintro e w2 ⟨rfl, hb2⟩
    have hq2 := hq.keep hb2
    have hbk2 := hbk.keep hb2
    have hm2 := hm1.below hb2
    have hB2 := below_step hbx hb2 (by omega)
    have hs2 := hb2.size
    clear hq hbk hm1 hb2
    have hIs := Is.new w2 [nd] (by simpa using hnd0) 3 (g := w2.heap.size) rfl (C := #[.int .i64 nd]) rfl (n := 1) rfl
    have hal := (Below.refl w2.heap.size w2).alloc (Nat.le_refl _) (.cells #[.int .i64 nd] 3)
    have hq3 := hq2.keep hal
    have hbk3 := hbk2.keep hal
    have hm3 := hm2.below hal
    have hB3 := below_step hB2 hal (by omega)
    have hs3 := hal.size
    cases h2 : ndB nd with
    | false =>
      have HR := Lib.hid (show moveA m a nd = (zM, 1) by rw [HS.out, if_pos h2])
      obtain ⟨x0, x1, x2, f0, f1, f2⟩ := cells3 hq3
      simp only
      go_wp2_with fail
      refine (may_ _ _ 1 1 [nd] hIs (by omega)).mono ?_
      rw [show [nd].all ndB = false by simp [h2]]
      rintro e w4 ⟨rfl, rfl⟩
      go_wp2
      refine bodyPost_ret (results_m rfl rfl (blk_set3 hq3 (.int .i64 0) (.int .i64 0) (.slice none 0 0))) rfl ?_
      exact ans_zero HR.out (below_set3 hB3 (by omega) (Nat.le_refl _) _ _ _)
    | true =>
      simp only
      go_wp2_with fail
      refine (may_ _ _ 1 1 [nd] hIs (by omega)).mono ?_
      rw [show [nd].all ndB = true by simp [h2]]
      rintro e w4 ⟨rfl, rfl⟩
      generalize (w2.alloc (.cells #[.int .i64 nd] 3)) = w3 at *
      clear hal hIs hm2 hbk2 hq2 hB2
      obtain ⟨d0, d1, d2, -, -, -⟩ := cells3 hbk3
      obtain ⟨b', o', e', -, -, p0, p1, p2⟩ := at_cells hm3 Hget.out
      injection e' with e'
      injection e' with e1 e2
      subst e1 e2
      have hpc := Blk.new w3 58 #[.int .i64 p.fr, .int .i64 p.en, .int .i64 p.nd] rfl
      have hab := (Below.refl w3.heap.size w3).alloc (Nat.le_refl _) (po p)
      have hq4 := hq3.keep hab
      have hbk4 := hbk3.keep hab
      have hm4 := hm3.below hab
      have hB4 := below_step hB3 hab (by omega)
      have hs4 : (w3.alloc (po p)).heap.size = w3.heap.size + 1 := by simp
      by_cases hfr : p.nd = nd
      · have t0 : (p.nd == nd) = true := by simpa using hfr
        have HR := Lib.hid (show moveA m a nd = (zM, 10) by rw [HS.out, if_neg (by simp [h2]), if_pos hfr])
        obtain ⟨x0, x1, x2, f0, f1, f2⟩ := cells3 hq4
        clear hfr
        go_wp2
        refine bodyPost_ret (results_m rfl rfl (blk_set3 hq4 (.int .i64 0) (.int .i64 0) (.slice none 0 0))) rfl ?_
        exact ans_zero HR.out (below_set3 hB4 (by omega) (Nat.le_refl _) _ _ _)
      · have t0 : (p.nd == nd) = false := by simpa using hfr
        have HR := Lib.hid (show moveA m a nd = nextA m (m.ps.take i ++ ([⟨p.fr, p.en, nd⟩] ++ m.ps.drop (i + 1))) by rw [HS.out, if_neg (by simp [h2]), if_neg hfr, Htake.out, Hdrop.out])
        obtain ⟨y0, y1, y2, -, -, -⟩ := cells3 hbk4
        clear hfr
        go_wp2_with fail
        have hal := (Below.refl (w3.alloc (po p)).heap.size (w3.alloc (po p))).alloc (Nat.le_refl _) (.cells #[.int .i64 p.fr, .int .i64 p.en, .int .i64 nd] 58)
        have hps := ps_one (w := w3.alloc (po p)) (p := ⟨p.fr, p.en, nd⟩) ⟨fp.fr, fp.en, hnd0⟩ (g := w3.heap.size + 1) hs4.symm
        have hm5 := hm4.below hal
        have hq5 := hq4.keep hal
        have hB5 := below_step hB4 hal (by omega)
        have hs5 := hal.size
        refine (next_ _ m _ k c hm5 hv1 hv2 hk16 i 1 (by omega) (by omega) (by omega) _ 1 1 _ hps (by omega) (by omega) (by omega)).mono ?_
        rintro e w6 ⟨A6, k6, c6, rfl, g6, hb6⟩
        have hq6 := hq5.keep hb6
        have hB6 := below_step hB5 hb6 (by omega)
        obtain ⟨x0, x1, x2, f0, f1, f2⟩ := cells3 hq6
        obtain ⟨r, hr6⟩ : ∃ r, r = moveA m a nd := ⟨_, rfl⟩
        rw [← HR.out, ← hr6] at g6 ⊢
        have Hr6 := Lib.hid hr6
        clear hr6 d0 d1 d2 p0 p1 p2 y0 y1 y2 hbk3 hbk4 hq3 hq4 hq5 hm3 hm4 hm5 hps hb6
        go_wp2
        refine bodyPost_ret (results_m rfl rfl (blk_set3 hq6 (.int .i64 r.1.v) (.int .i64 r.1.n) (.slice A6 k6 c6))) rfl ?_
        rw [← Hr6.out]
        exact ans_set (q := w.heap.size + 1) g6 (by omega) (by omega) hB6 _ _ _
end
end Sma
end Go.Proofs.Ytncapionioeieaa
