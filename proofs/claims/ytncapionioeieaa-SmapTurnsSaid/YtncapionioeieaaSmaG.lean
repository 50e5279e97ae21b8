/- Layer 13: Merge. -/
import Derived.Test.YtncapionioeieaaSmaF
set_option linter.all false
namespace Go.Proofs.Ytncapionioeieaa
open Go.RowKit
namespace Sma

theorem fr_zero {m : Mp} {a : Int} {pre post : List Pc} {p : Pc} (h : At m a pre p post) (hf : pre = [] ∨ p.fr ≠ a) : posI (pos (frB a) 0 m.ps) < 1 := by
  rw [pos_fr h]
  rcases hf with rfl | hf
  · split
    · simp [posI]
    · simp [posI]
  · rw [if_neg hf]; simp [posI]
section
variable (w : World)
set_option maxRecDepth 100000 in
set_option maxHeartbeats 2000000 in
theorem merge_ (m : Mp) (A : Option Addr) (k c : Nat) (h : Mr w m A k c) (a : Int) (ha : I64 a) : Calls Try.prog 23 #[mv m A k c, .int .i64 a] w fun e w' => Ans w w' e (mergeA m a) := by
  have hn := h.n
  have ha0 := ha
  unfold I64 at hn ha
  have hkc := Nat.le_trans h.le h.cap
  have hbx : Below w.heap.size w (((w.alloc (mo m A k c)).alloc (.cells #[.int .i64 a] 3)).alloc zo) := (((Below.refl w.heap.size w).alloc (Nat.le_refl _) _).alloc (by simp) _).alloc (by simp; omega) _
  have hbk := ((Blk.new w 26 #[.int .i64 m.v, .int .i64 m.n, .slice A k c] rfl).alloc (.cells #[.int .i64 a] 3)).alloc zo
  have hat0 := (Blk.new (w.alloc (mo m A k c)) 3 #[.int .i64 a] (g := w.heap.size + 1) (by simp)).alloc zo
  have hq := Blk.new ((w.alloc (mo m A k c)).alloc (.cells #[.int .i64 a] 3)) 26 #[.int .i64 0, .int .i64 0, .slice none 0 0] (g := w.heap.size + 2) (by simp)
  have hm1 := h.below hbx
  have hsz : (((w.alloc (mo m A k c)).alloc (.cells #[.int .i64 a] 3)).alloc zo).heap.size = w.heap.size + 3 := by simp
  simp only [mv]
  clear h
  cases hr : m.right with
  | false =>
    have HR := Lib.hid (merge_no (a := a) hr)
    go_enter Try.func23, Try.ntmps23
    go_wp2_with fail
    generalize (((w.alloc (mo m A k c)).alloc (.cells #[.int .i64 a] 3)).alloc zo) = w1 at *
    refine (right_ _ m A k c hm1).mono ?_
    rw [hr]
    rintro e w2 ⟨rfl, hb2⟩
    have hq2 := hq.keep hb2
    obtain ⟨x0, x1, x2, f0, f1, f2⟩ := cells3 hq2
    go_wp2
    refine bodyPost_ret (results_m rfl rfl (blk_set3 hq2 (.int .i64 0) (.int .i64 0) (.slice none 0 0))) rfl ?_
    exact ans_zero HR.out (below_set3 (below_step hbx hb2 (by omega)) (by omega) (Nat.le_refl _) _ _ _)
  | true =>
    have hrr := right_is hr
    have hlen := hm1.len
    have hk16 : k ≤ 16 := by omega
    have hv1 : 1 ≤ m.v := hrr.1.1
    have hv2 : m.v ≤ 1099511627776 := hrr.1.2
    have Hlen := Lib.hid hlen
    clear hlen hrr
    by_cases hbad : posI (pos (frB a) 0 m.ps) < 1
    · have HR := Lib.hid (show mergeA m a = (zM, 9) by
        by_cases h1 : a < 0 ∨ m.n ≤ a
        · exact merge_none hr h1
        · obtain ⟨pre, p, post, hat⟩ := at_of hr (a := a) (by omega) (by omega)
          refine merge_in hr hat (Classical.byContradiction fun hc => ?_)
          have hc1 : pre ≠ [] := fun e => hc (.inl e)
          have hc2 : p.fr = a := Classical.byContradiction fun e => hc (.inr e)
          rw [pos_fr hat, if_pos hc2] at hbad
          simp only [posI] at hbad
          have : 0 < pre.length := List.length_pos_iff.2 hc1
          omega)
      obtain ⟨z, hz⟩ : ∃ z, z = posI (pos (frB a) 0 m.ps) := ⟨_, rfl⟩
      rw [← hz] at hbad
      have Hz := Lib.hid hz
      clear hz
      go_enter Try.func23, Try.ntmps23
      go_wp2_with fail
      generalize (((w.alloc (mo m A k c)).alloc (.cells #[.int .i64 a] 3)).alloc zo) = w1 at *
      refine (right_ _ m A k c hm1).mono ?_
      rw [hr]
      rintro e w2 ⟨rfl, hb2⟩
      have hq2 := hq.keep hb2
      have hbk2 := hbk.keep hb2
      have hat2 := hat0.keep hb2
      have hm2 := hm1.below hb2
      have hB2 := below_step hbx hb2 (by omega)
      have hs2 := hb2.size
      clear hq hbk hm1 hb2 hat0
      obtain ⟨d0, d1, d2, -, -, -⟩ := cells3 hbk2
      go_wp2_with fail
      refine (indexFr_ _ A k c m.ps hm2.ps hkc a ha0 _ (hat2.cell rfl)).mono ?_
      rw [← Hz.out]
      rintro e w3 ⟨rfl, hb3⟩
      have hq3 := hq2.keep hb3
      obtain ⟨x0, x1, x2, f0, f1, f2⟩ := cells3 hq3
      clear d0 d1 d2
      go_wp2
      refine bodyPost_ret (results_m rfl rfl (blk_set3 hq3 (.int .i64 0) (.int .i64 0) (.slice none 0 0))) rfl ?_
      exact ans_zero HR.out (below_set3 (below_step hB2 hb3 (by omega)) (by omega) (Nat.le_refl _) _ _ _)
    · have h1 : ¬ (a < 0 ∨ m.n ≤ a) := fun h1 => hbad (by rw [pos_fr_out hr h1]; simp [posI])
      obtain ⟨pre, p, post, hat⟩ := at_of hr (a := a) (by omega) (by omega)
      have hne : ¬ (pre = [] ∨ p.fr ≠ a) := fun hf => hbad (fr_zero hat hf)
      have hfr : p.fr = a := Classical.byContradiction fun e => hne (.inr e)
      rcases List.eq_nil_or_concat pre with e | ⟨pre0, q, e⟩
      · exact absurd (Or.inl e) hne
      rw [List.concat_eq_append] at e
      subst e
      have HS := Lib.hid (merge_at hr hat hfr)
      obtain ⟨i, hi⟩ : ∃ i, pre0.length = i := ⟨_, rfl⟩
      have hps := hat.ps
      have hgp : m.ps[i + 1]? = some p := by have := hat.get; simp only [List.length_append, List.length_singleton, hi] at this; exact this
      have hgq : m.ps[i]? = some q := by rw [hps, ← hi]; simp
      have Hpos := Lib.hid (show posI (pos (frB a) 0 m.ps) = ((i + 1 : Nat) : Int) by rw [pos_fr hat, if_pos hfr]; simp only [posI, List.length_append, List.length_singleton, hi])
      obtain ⟨b, o, rfl, hik, fp, -, -, -⟩ := at_cells hm1 hgp
      obtain ⟨b', o', e', hik0, fq, -, -, -⟩ := at_cells hm1 hgq
      have Hp := Lib.hid hgp
      have Hq := Lib.hid hgq
      have Htake := Lib.hid (show m.ps.take i = pre0 by rw [hps, ← hi]; simp)
      have Hdrop := Lib.hid (show m.ps.drop (i + 2) = post by have := hat.drop; simp only [List.length_append, List.length_singleton, hi] at this; exact this)
      obtain ⟨ff, fe, fn⟩ := fp.all
      obtain ⟨gf, ge, gn⟩ := fq.all
      clear hat hi hps hgp hgq hbad h1 hne e' b' o' hfr
      have hw1 : IntKind.i64.wrap (((i + 1 : Nat) : Int) - 1) = (i : Int) := by rw [IntKind.wrap_i64]; omega
      have hw2 : IntKind.i64.wrap ((i : Int) + 1 - 1) = (i : Int) := by rw [IntKind.wrap_i64]; omega
      have hi0 : (0 : Int) ≤ (i : Int) := by omega
      have hiK : (i : Int) < (k : Int) := by omega
      have hi1 : (0 : Int) ≤ ((i + 1 : Nat) : Int) := by omega
      have hi1K : ((i + 1 : Nat) : Int) < (k : Int) := by omega
      have hi2 : ¬ ((i + 1 : Nat) : Int) < 1 := by omega
      obtain ⟨j, hj⟩ : ∃ j, j = i + 1 := ⟨_, rfl⟩
      rw [← hj] at hw1 hi1 hi1K hi2 Hp Hpos hik
      have Hj := Lib.hid hj
      clear hj hw2
      go_enter Try.func23, Try.ntmps23
      go_wp2_with fail
      generalize (((w.alloc (mo m (some ⟨b, o, none⟩) k c)).alloc (.cells #[.int .i64 a] 3)).alloc zo) = w1 at *
      refine (right_ _ m _ k c hm1).mono ?_
      rw [hr]
      rintro e w2 ⟨rfl, hb2⟩
      have hq2 := hq.keep hb2
      have hbk2 := hbk.keep hb2
      have hat2 := hat0.keep hb2
      have hm2 := hm1.below hb2
      have hB2 := below_step hbx hb2 (by omega)
      have hs2 := hb2.size
      clear hq hbk hm1 hb2 hat0
      obtain ⟨d0, d1, d2, -, -, -⟩ := cells3 hbk2
      go_wp2_with fail
      refine (indexFr_ _ _ k c m.ps hm2.ps hkc a ha0 _ (hat2.cell rfl)).mono ?_
      rw [Hpos.out]
      rintro e w3 ⟨rfl, hb3⟩
      have hq3 := hq2.keep hb3
      have hbk3 := hbk2.keep hb3
      have hm3 := hm2.below hb3
      have hB3 := below_step hB2 hb3 (by omega)
      have hs3 := hb3.size
      clear d0 d1 d2 hq2 hbk2 hm2 hb3 hB2 hat2
      obtain ⟨d0, d1, d2, -, -, -⟩ := cells3 hbk3
      obtain ⟨b', o', e', -, -, p0, p1, p2⟩ := at_cells hm3 Hp.out
      injection e' with e'
      injection e' with e1 e2
      subst e1 e2
      obtain ⟨b', o', e', -, -, q0, q1, q2⟩ := at_cells hm3 Hq.out
      injection e' with e'
      injection e' with e1 e2
      subst e1 e2
      go_wp2_with fail
      have := World.new_ne w3 _ d2
      have := World.new_ne w3 _ p0
      have := World.new_ne w3 _ q0
      go_region_held3 (fun w' => w'.cell? ⟨w.heap.size, 2, none⟩ = some (.slice (some ⟨b, o, none⟩) k c) ∧ w'.cell? ⟨b, o + j * 3, none⟩ = some (.int .i64 p.fr) ∧ w'.cell? ⟨b, o + j * 3 + 1, none⟩ = some (.int .i64 p.en) ∧ w'.cell? ⟨b, o + j * 3 + 2, none⟩ = some (.int .i64 p.nd) ∧ w'.cell? ⟨b, o + i * 3, none⟩ = some (.int .i64 q.fr) ∧ w'.cell? ⟨b, o + i * 3 + 1, none⟩ = some (.int .i64 q.en) ∧ w'.cell? ⟨b, o + i * 3 + 2, none⟩ = some (.int .i64 q.nd))
        (first | go_keep | exact ⟨d2, p0, p1, p2, q0, q1, q2⟩)
        (fail)
      · have hpc := (Blk.new w3 58 #[.int .i64 q.fr, .int .i64 q.en, .int .i64 q.nd] rfl).alloc (po p)
        have hpd := Blk.new (w3.alloc (po q)) 58 #[.int .i64 p.fr, .int .i64 p.en, .int .i64 p.nd] (g := w3.heap.size + 1) (by simp)
        have hab : Below w3.heap.size w3 ((w3.alloc (po q)).alloc (po p)) := ((Below.refl w3.heap.size w3).alloc (Nat.le_refl _) (po q)).alloc (by simp) (po p)
        have hq4 := hq3.keep hab
        have hbk4 := hbk3.keep hab
        have hm4 := hm3.below hab
        have hB4 := below_step hB3 hab (by omega)
        have hs4 : ((w3.alloc (po q)).alloc (po p)).heap.size = w3.heap.size + 2 := by simp
        clear d0 d1 d2 p0 p1 p2 q0 q1 q2 hq3 hbk3 hm3 hab
        replace hpc : Blk ((w3.alloc (po q)).alloc (po p)).drew _ _ _ := hpc
        replace hpd : Blk ((w3.alloc (po q)).alloc (po p)).drew _ _ _ := hpd
        replace hq4 : Blk ((w3.alloc (po q)).alloc (po p)).drew _ _ _ := hq4
        replace hbk4 : Blk ((w3.alloc (po q)).alloc (po p)).drew _ _ _ := hbk4
        replace hm4 : Mr ((w3.alloc (po q)).alloc (po p)).drew _ _ _ _ := hm4.drewN 1
        replace hB4 : Below _ _ ((w3.alloc (po q)).alloc (po p)).drew := below_drewN hB4 1
        replace hs4 : ((w3.alloc (po q)).alloc (po p)).drew.heap.size = w3.heap.size + 2 := hs4
        generalize ((w3.alloc (po q)).alloc (po p)).drew = w4 at *
        obtain ⟨c0, c1, c2, -, -, -⟩ := cells3 hpc
        obtain ⟨e0, e1, e2, -, -, -⟩ := cells3 hpd
        by_cases hnn : q.nd = p.nd
        · have t0 : (q.nd != p.nd) = false := by simp [hnn]
          have HR := Lib.hid (show mergeA m a = nextA m (m.ps.take i ++ ([⟨q.fr, p.en, p.nd⟩] ++ m.ps.drop (i + 2))) by rw [HS.out, if_neg (by simp [hnn]), Htake.out, Hdrop.out])
          obtain ⟨y0, y1, y2, -, -, -⟩ := cells3 hbk4
          clear hnn
          go_wp2_with fail
          have hal := (Below.refl w4.heap.size w4).alloc (Nat.le_refl _) (.cells #[.int .i64 q.fr, .int .i64 p.en, .int .i64 p.nd] 58)
          have hps := ps_one (w := w4) (p := ⟨q.fr, p.en, p.nd⟩) ⟨fq.fr, fp.en, fp.nd⟩ (g := w3.heap.size + 2) hs4.symm
          have hm5 := hm4.below hal
          have hq5 := hq4.keep hal
          have hB5 := below_step hB4 hal (by omega)
          have hs5 := hal.size
          have hij := Hj.out
          refine (next_ _ m _ k c hm5 hv1 hv2 hk16 i 2 (by omega) (by omega) (by omega) _ 1 1 _ hps (by omega) (by omega) (by omega)).mono ?_
          rintro e w6 ⟨A6, k6, c6, rfl, g6, hb6⟩
          clear hij
          have hq6 := hq5.keep hb6
          have hB6 := below_step hB5 hb6 (by omega)
          obtain ⟨x0, x1, x2, f0, f1, f2⟩ := cells3 hq6
          obtain ⟨r, hr6⟩ : ∃ r, r = mergeA m a := ⟨_, rfl⟩
          rw [← HR.out, ← hr6] at g6 ⊢
          have Hr6 := Lib.hid hr6
          clear hr6 y0 y1 y2 c0 c1 c2 e0 e1 e2 hbk4 hq4 hq5 hm4 hm5 hps hb6
          go_wp2
          refine bodyPost_ret (results_m rfl rfl (blk_set3 hq6 (.int .i64 r.1.v) (.int .i64 r.1.n) (.slice A6 k6 c6))) rfl ?_
          rw [← Hr6.out]
          exact ans_set (q := w.heap.size + 2) g6 (by omega) (by omega) hB6 _ _ _
        · have t0 : (q.nd != p.nd) = true := by simp [hnn]
          have HR := Lib.hid (show mergeA m a = (zM, 1) by rw [HS.out, if_pos hnn])
          obtain ⟨x0, x1, x2, f0, f1, f2⟩ := cells3 hq4
          clear hnn
          go_wp2
          refine bodyPost_ret (results_m rfl rfl (blk_set3 hq4 (.int .i64 0) (.int .i64 0) (.slice none 0 0))) rfl ?_
          exact ans_zero HR.out (below_set3 hB4 (by omega) (Nat.le_refl _) _ _ _)
      · have hpd := (Blk.new w3 58 #[.int .i64 p.fr, .int .i64 p.en, .int .i64 p.nd] rfl).alloc (po q)
        have hpc := Blk.new (w3.alloc (po p)) 58 #[.int .i64 q.fr, .int .i64 q.en, .int .i64 q.nd] (g := w3.heap.size + 1) (by simp)
        have hab : Below w3.heap.size w3 ((w3.alloc (po p)).alloc (po q)) := ((Below.refl w3.heap.size w3).alloc (Nat.le_refl _) (po p)).alloc (by simp) (po q)
        have hq4 := hq3.keep hab
        have hbk4 := hbk3.keep hab
        have hm4 := hm3.below hab
        have hB4 := below_step hB3 hab (by omega)
        have hs4 : ((w3.alloc (po p)).alloc (po q)).heap.size = w3.heap.size + 2 := by simp
        clear d0 d1 d2 p0 p1 p2 q0 q1 q2 hq3 hbk3 hm3 hab
        replace hpc : Blk ((w3.alloc (po p)).alloc (po q)).drew _ _ _ := hpc
        replace hpd : Blk ((w3.alloc (po p)).alloc (po q)).drew _ _ _ := hpd
        replace hq4 : Blk ((w3.alloc (po p)).alloc (po q)).drew _ _ _ := hq4
        replace hbk4 : Blk ((w3.alloc (po p)).alloc (po q)).drew _ _ _ := hbk4
        replace hm4 : Mr ((w3.alloc (po p)).alloc (po q)).drew _ _ _ _ := hm4.drewN 1
        replace hB4 : Below _ _ ((w3.alloc (po p)).alloc (po q)).drew := below_drewN hB4 1
        replace hs4 : ((w3.alloc (po p)).alloc (po q)).drew.heap.size = w3.heap.size + 2 := hs4
        generalize ((w3.alloc (po p)).alloc (po q)).drew = w4 at *
        obtain ⟨c0, c1, c2, -, -, -⟩ := cells3 hpc
        obtain ⟨e0, e1, e2, -, -, -⟩ := cells3 hpd
        by_cases hnn : q.nd = p.nd
        · have t0 : (q.nd != p.nd) = false := by simp [hnn]
          have HR := Lib.hid (show mergeA m a = nextA m (m.ps.take i ++ ([⟨q.fr, p.en, p.nd⟩] ++ m.ps.drop (i + 2))) by rw [HS.out, if_neg (by simp [hnn]), Htake.out, Hdrop.out])
          obtain ⟨y0, y1, y2, -, -, -⟩ := cells3 hbk4
          clear hnn
          go_wp2_with fail
          have hal := (Below.refl w4.heap.size w4).alloc (Nat.le_refl _) (.cells #[.int .i64 q.fr, .int .i64 p.en, .int .i64 p.nd] 58)
          have hps := ps_one (w := w4) (p := ⟨q.fr, p.en, p.nd⟩) ⟨fq.fr, fp.en, fp.nd⟩ (g := w3.heap.size + 2) hs4.symm
          have hm5 := hm4.below hal
          have hq5 := hq4.keep hal
          have hB5 := below_step hB4 hal (by omega)
          have hs5 := hal.size
          have hij := Hj.out
          refine (next_ _ m _ k c hm5 hv1 hv2 hk16 i 2 (by omega) (by omega) (by omega) _ 1 1 _ hps (by omega) (by omega) (by omega)).mono ?_
          rintro e w6 ⟨A6, k6, c6, rfl, g6, hb6⟩
          clear hij
          have hq6 := hq5.keep hb6
          have hB6 := below_step hB5 hb6 (by omega)
          obtain ⟨x0, x1, x2, f0, f1, f2⟩ := cells3 hq6
          obtain ⟨r, hr6⟩ : ∃ r, r = mergeA m a := ⟨_, rfl⟩
          rw [← HR.out, ← hr6] at g6 ⊢
          have Hr6 := Lib.hid hr6
          clear hr6 y0 y1 y2 c0 c1 c2 e0 e1 e2 hbk4 hq4 hq5 hm4 hm5 hps hb6
          go_wp2
          refine bodyPost_ret (results_m rfl rfl (blk_set3 hq6 (.int .i64 r.1.v) (.int .i64 r.1.n) (.slice A6 k6 c6))) rfl ?_
          rw [← Hr6.out]
          exact ans_set (q := w.heap.size + 2) g6 (by omega) (by omega) hB6 _ _ _
        · have t0 : (q.nd != p.nd) = true := by simp [hnn]
          have HR := Lib.hid (show mergeA m a = (zM, 1) by rw [HS.out, if_pos hnn])
          obtain ⟨x0, x1, x2, f0, f1, f2⟩ := cells3 hq4
          clear hnn
          go_wp2
          refine bodyPost_ret (results_m rfl rfl (blk_set3 hq4 (.int .i64 0) (.int .i64 0) (.slice none 0 0))) rfl ?_
          exact ans_zero HR.out (below_set3 hB4 (by omega) (Nat.le_refl _) _ _ _)
end
end Sma
end Go.Proofs.Ytncapionioeieaa
