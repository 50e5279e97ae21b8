/- Layer 13: Split. -/
import Derived.Test.YtncapionioeieaaSmaE
set_option linter.all false
namespace Go.Proofs.Ytncapionioeieaa
open Go.RowKit
namespace Sma

theorem cells3 {w : World} {b : Nat} {t : TypeId} {x y z : Value} (h : Blk w b t #[x, y, z]) : w.cell? ⟨b, 0, none⟩ = some x ∧ w.cell? ⟨b, 1, none⟩ = some y ∧ w.cell? ⟨b, 2, none⟩ = some z ∧ w.frozen? ⟨b, 0, none⟩ = false ∧ w.frozen? ⟨b, 1, none⟩ = false ∧ w.frozen? ⟨b, 2, none⟩ = false :=
  ⟨h.cell rfl, h.cell rfl, h.cell rfl, h.free 0, h.free 1, h.free 2⟩
theorem Got.set3 {w : World} {g q : Nat} {A : Option Addr} {k c : Nat} {m : Mp} (h : Got w g A k c m) (hq : q < g) (u0 u1 u2 : Value) : Got (((w.setCell ⟨q, 0, none⟩ u0).setCell ⟨q, 1, none⟩ u1).setCell ⟨q, 2, none⟩ u2) g A k c m := by
  have hgr := grown3 w q u0 u1 u2
  have hown' : Po (((w.setCell ⟨q, 0, none⟩ u0).setCell ⟨q, 1, none⟩ u1).setCell ⟨q, 2, none⟩ u2) g (.slice A k c) k m.ps := by
    refine ⟨h.own.1, ?_⟩
    rcases h.own.2 with h2 | ⟨g', cap, cur, e, hb, hh, r⟩
    · exact .inl h2
    · have hne : some g' ≠ some q := fun e => by injection e with e; omega
      exact .inr ⟨g', cap, cur, e, hb, (hgr.block g' (h.own.lt g' (by rw [e]; rfl)).2 hne).trans hh, r⟩
  exact ⟨hown', ⟨h.mr.v, h.mr.n, po_ps hown' h.mr.ps.fit, h.mr.le, h.mr.cap, h.mr.nil⟩⟩
/-- An answer that was stored where the function's own is. -/
theorem ans_set {w w3 : World} {g q : Nat} {A : Option Addr} {k c : Nat} {r : Mp × Int} (h : Got w3 g A k c r.1) (hq : q < g) (hq0 : w.heap.size ≤ q) (hB : Below w.heap.size w w3) (u0 u1 u2 : Value) : Ans w (((w3.setCell ⟨q, 0, none⟩ u0).setCell ⟨q, 1, none⟩ u1).setCell ⟨q, 2, none⟩ u2) (.returned (.tuple #[mv r.1 A k c, .int .i64 r.2])) r :=
  ⟨A, k, c, rfl, (h.set3 hq u0 u1 u2).mono (by omega), below_set3 hB hq0 (Nat.le_refl _) _ _ _⟩
theorem ans_zero {w w' : World} {er : Int} {r : Mp × Int} (hr : r = (zM, er)) (hb : Below w.heap.size w w') : Ans w w' (.returned (.tuple #[.agg #[.int .i64 0, .int .i64 0, .slice none 0 0], .int .i64 er])) r := by
  subst hr
  exact ⟨none, 0, 0, rfl, got_zero _ _, hb⟩
/-- The piece of a block, read. -/
theorem at_cells {w : World} {m : Mp} {A : Option Addr} {k c : Nat} (h : Mr w m A k c) {i : Nat} {p : Pc} (hp : m.ps[i]? = some p) : ∃ b o, A = some ⟨b, o, none⟩ ∧ i < k ∧ Fit p ∧ w.cell? ⟨b, o + i * 3, none⟩ = some (.int .i64 p.fr) ∧ w.cell? ⟨b, o + i * 3 + 1, none⟩ = some (.int .i64 p.en) ∧ w.cell? ⟨b, o + i * 3 + 2, none⟩ = some (.int .i64 p.nd) := by
  have hi : i < k := by have := h.len; have := (List.getElem?_eq_some_iff.1 hp).1; omega
  obtain ⟨b, o, e, p', hp', fp, c0, c1, c2⟩ := h.ps.at_ hi
  rw [hp] at hp'
  injection hp' with hp'
  subst hp'
  exact ⟨b, o, e, hi, fp, c0, c1, c2⟩
theorem ps_two {w : World} {p q : Pc} (fp : Fit p) (fq : Fit q) {g : Nat} (hg : g = w.heap.size) : Ps (w.alloc (.cells #[.int .i64 p.fr, .int .i64 p.en, .int .i64 p.nd, .int .i64 q.fr, .int .i64 q.en, .int .i64 q.nd] 58)) (some ⟨g, 0, none⟩) 2 [p, q] := by
  subst hg
  refine ⟨Rd.new w #[.int .i64 p.fr, .int .i64 p.en, .int .i64 p.nd, .int .i64 q.fr, .int .i64 q.en, .int .i64 q.nd] 58 (0, 0) rfl, fun x hx => ?_⟩
  simp only [List.mem_cons, List.not_mem_nil, or_false] at hx
  rcases hx with rfl | rfl
  · exact fp
  · exact fq
theorem ps_one {w : World} {p : Pc} (fp : Fit p) {g : Nat} (hg : g = w.heap.size) : Ps (w.alloc (.cells #[.int .i64 p.fr, .int .i64 p.en, .int .i64 p.nd] 58)) (some ⟨g, 0, none⟩) 1 [p] := by
  subst hg
  refine ⟨Rd.new w #[.int .i64 p.fr, .int .i64 p.en, .int .i64 p.nd] 58 (0, 0) rfl, fun x hx => ?_⟩
  simp only [List.mem_cons, List.not_mem_nil, or_false] at hx
  subst hx
  exact fp
section
variable (w : World)
set_option maxRecDepth 100000 in
set_option maxHeartbeats 2000000 in
theorem split_ (m : Mp) (A : Option Addr) (k c : Nat) (h : Mr w m A k c) (a : Int) (ha : I64 a) : Calls Try.prog 21 #[mv m A k c, .int .i64 a] w fun e w' => Ans w w' e (splitA m a) := by
  have hn := h.n
  unfold I64 at hn ha
  have hbx : Below w.heap.size w ((w.alloc (mo m A k c)).alloc zo) := ((Below.refl w.heap.size w).alloc (Nat.le_refl _) _).alloc (by simp) _
  have hbk := (Blk.new w 26 #[.int .i64 m.v, .int .i64 m.n, .slice A k c] rfl).alloc zo
  have hq := Blk.new (w.alloc (mo m A k c)) 26 #[.int .i64 0, .int .i64 0, .slice none 0 0] (g := w.heap.size + 1) (by simp)
  have hm1 := h.below hbx
  have hsz : ((w.alloc (mo m A k c)).alloc zo).heap.size = w.heap.size + 2 := by simp
  simp only [mv]
  clear h
  cases hr : m.right with
  | false =>
    have HR := Lib.hid (split_bad (a := a) (.inl hr))
    go_enter Try.func21, Try.ntmps21
    go_wp2_with fail
    generalize ((w.alloc (mo m A k c)).alloc zo) = w1 at *
    refine (right_ _ m A k c hm1).mono ?_
    rw [hr]
    rintro e w2 ⟨rfl, hb2⟩
    have hq2 := hq.keep hb2
    obtain ⟨x0, x1, x2, f0, f1, f2⟩ := cells3 hq2
    go_wp2
    refine bodyPost_ret (results_m rfl rfl (blk_set3 hq2 (.int .i64 0) (.int .i64 0) (.slice none 0 0))) rfl ?_
    exact ans_zero HR.out (below_set3 (below_step hbx hb2 (by omega)) (by omega) (Nat.le_refl _) _ _ _)
  | true =>
    by_cases h1 : a < 1 ∨ m.n ≤ a
    · have HR := Lib.hid (split_bad (m := m) (.inr h1))
      have hg1 : decide (a < 1) = true ∨ (decide (a < 1) = false ∧ decide (m.n ≤ a) = true) := by
        by_cases q : a < 1
        · exact .inl (by simpa using q)
        · exact .inr ⟨by simpa using q, by simp; omega⟩
      rcases hg1 with g1 | ⟨g1, g2⟩
      · go_enter Try.func21, Try.ntmps21
        go_wp2_with fail
        generalize ((w.alloc (mo m A k c)).alloc zo) = w1 at *
        refine (right_ _ m A k c hm1).mono ?_
        rw [hr]
        rintro e w2 ⟨rfl, hb2⟩
        have hq2 := hq.keep hb2
        obtain ⟨x0, x1, x2, f0, f1, f2⟩ := cells3 hq2
        clear h1
        have g1' : a < 1 := by simpa using g1
        go_wp2
        refine bodyPost_ret (results_m rfl rfl (blk_set3 hq2 (.int .i64 0) (.int .i64 0) (.slice none 0 0))) rfl ?_
        exact ans_zero HR.out (below_set3 (below_step hbx hb2 (by omega)) (by omega) (Nat.le_refl _) _ _ _)
      · go_enter Try.func21, Try.ntmps21
        go_wp2_with fail
        generalize ((w.alloc (mo m A k c)).alloc zo) = w1 at *
        refine (right_ _ m A k c hm1).mono ?_
        rw [hr]
        rintro e w2 ⟨rfl, hb2⟩
        have hq2 := hq.keep hb2
        obtain ⟨x0, x1, x2, f0, f1, f2⟩ := cells3 hq2
        obtain ⟨d0, d1, d2, -, -, -⟩ := cells3 (hbk.keep hb2)
        clear h1
        have g1' : ¬ a < 1 := by simpa using g1
        have g2' : m.n ≤ a := by simpa using g2
        go_wp2
        refine bodyPost_ret (results_m rfl rfl (blk_set3 hq2 (.int .i64 0) (.int .i64 0) (.slice none 0 0))) rfl ?_
        exact ans_zero HR.out (below_set3 (below_step hbx hb2 (by omega)) (by omega) (Nat.le_refl _) _ _ _)
    · have h1a : ¬ a < 1 := fun q => h1 (.inl q)
      have h1b : ¬ m.n ≤ a := fun q => h1 (.inr q)
      clear h1
      obtain ⟨pre, p, post, hat⟩ := at_of hr (a := a) (by omega) (by omega)
      obtain ⟨b, o, rfl, hik, fp, -, -, -⟩ := at_cells hm1 hat.get
      have HS := Lib.hid (split_at hr hat (by omega))
      have hlen := hm1.len
      have hrr := right_is hr
      have hk16 : k ≤ 16 := by omega
      have Hlen := Lib.hid hlen
      have hv1 : 1 ≤ m.v := hrr.1.1
      have hv2 : m.v ≤ 1099511627776 := hrr.1.2
      obtain ⟨ff, fe, fn⟩ := fp.all
      obtain ⟨i, hi⟩ : ∃ i, pre.length = i := ⟨_, rfl⟩
      have Hi := Lib.hid hi
      have Hpos := Lib.hid (show posI (pos (inB a) 0 m.ps) = (i : Int) by rw [hat.pos, hi]; rfl)
      have Hget := Lib.hid (show m.ps[i]? = some p by rw [← hi]; exact hat.get)
      have Htake := Lib.hid (show m.ps.take i = pre by rw [← hi]; exact hat.take)
      have Hdrop := Lib.hid (show m.ps.drop (i + 1) = post by rw [← hi]; exact hat.drop)
      rw [hi] at hik
      clear hlen hrr hat hi
      have hi0 : (0 : Int) ≤ (i : Int) := by omega
      have hiK : (i : Int) < (k : Int) := by omega
      go_enter Try.func21, Try.ntmps21
      go_wp2_with fail
      generalize ((w.alloc (mo m (some ⟨b, o, none⟩) k c)).alloc zo) = w1 at *
      refine (right_ _ m _ k c hm1).mono ?_
      rw [hr]
      rintro e w2 ⟨rfl, hb2⟩
      have hq2 := hq.keep hb2
      have hbk2 := hbk.keep hb2
      have hm2 := hm1.below hb2
      have hB2 := below_step hbx hb2 (by omega)
      have hs2 := hb2.size
      clear hq hbk hm1 hb2
      obtain ⟨d0, d1, d2, -, -, -⟩ := cells3 hbk2
      go_wp2_with fail
      refine (piece_ _ m _ k c hm2 a ha).mono ?_
      rw [Hpos.out]
      rintro e w3 ⟨rfl, hb3⟩
      have hq3 := hq2.keep hb3
      have hbk3 := hbk2.keep hb3
      have hm3 := hm2.below hb3
      have hB3 := below_step hB2 hb3 (by omega)
      have hs3 := hb3.size
      clear d0 d1 d2 hq2 hbk2 hm2 hb3 hB2
      obtain ⟨d0, d1, d2, -, -, -⟩ := cells3 hbk3
      obtain ⟨b', o', e', -, -, p0, p1, p2⟩ := at_cells hm3 Hget.out
      injection e' with e'
      injection e' with e1 e2
      subst e1 e2
      have hpc := Blk.new w3 58 #[.int .i64 p.fr, .int .i64 p.en, .int .i64 p.nd] rfl
      have hab := (Below.refl w3.heap.size w3).alloc (Nat.le_refl _) (po p)
      have hq4 := hq3.keep hab
      have hbk4 := hbk3.keep hab
      have hm4 := hm3.below hab
      have hB4 := below_step hB3 hab (by omega)
      have hs4 : (w3.alloc (po p)).heap.size = w3.heap.size + 1 := by simp
      by_cases hfr : p.fr = a
      · have t0 : (p.fr == a) = true := by simpa using hfr
        have HR := Lib.hid (show splitA m a = (zM, 10) by rw [HS.out, if_pos hfr])
        obtain ⟨x0, x1, x2, f0, f1, f2⟩ := cells3 hq4
        clear hfr
        go_wp2
        refine bodyPost_ret (results_m rfl rfl (blk_set3 hq4 (.int .i64 0) (.int .i64 0) (.slice none 0 0))) rfl ?_
        exact ans_zero HR.out (below_set3 hB4 (by omega) (Nat.le_refl _) _ _ _)
      · have t0 : (p.fr == a) = false := by simpa using hfr
        by_cases hk : k = 16
        · have HR := Lib.hid (show splitA m a = (zM, 6) by rw [HS.out, if_neg hfr, if_pos (by have := Hlen.out; omega)])
          have t1 : ((k : Int) == 16) = true := by simp; omega
          obtain ⟨x0, x1, x2, f0, f1, f2⟩ := cells3 hq4
          obtain ⟨y0, y1, y2, -, -, -⟩ := cells3 hbk4
          clear hfr hk
          go_wp2
          refine bodyPost_ret (results_m rfl rfl (blk_set3 hq4 (.int .i64 0) (.int .i64 0) (.slice none 0 0))) rfl ?_
          exact ans_zero HR.out (below_set3 hB4 (by omega) (Nat.le_refl _) _ _ _)
        · have t1 : ((k : Int) == 16) = false := by simp; omega
          have HR := Lib.hid (show splitA m a = nextA m (m.ps.take i ++ ([⟨p.fr, a, p.nd⟩, ⟨a, p.en, p.nd⟩] ++ m.ps.drop (i + 1))) by rw [HS.out, if_neg hfr, if_neg (by have := Hlen.out; omega), Htake.out, Hdrop.out])
          obtain ⟨y0, y1, y2, -, -, -⟩ := cells3 hbk4
          clear hfr hk
          go_wp2_with fail
          have hal := (Below.refl (w3.alloc (po p)).heap.size (w3.alloc (po p))).alloc (Nat.le_refl _) (.cells #[.int .i64 p.fr, .int .i64 a, .int .i64 p.nd, .int .i64 a, .int .i64 p.en, .int .i64 p.nd] 58)
          have hps := ps_two (w := w3.alloc (po p)) (p := ⟨p.fr, a, p.nd⟩) (q := ⟨a, p.en, p.nd⟩) ⟨fp.fr, ha, fp.nd⟩ ⟨ha, fp.en, fp.nd⟩ (g := w3.heap.size + 1) hs4.symm
          have hm5 := hm4.below hal
          have hq5 := hq4.keep hal
          have hB5 := below_step hB4 hal (by omega)
          have hs5 := hal.size
          refine (next_ _ m _ k c hm5 hv1 hv2 hk16 i 1 (by omega) (by omega) (by omega) _ 2 2 _ hps (by omega) (by omega) (by omega)).mono ?_
          rintro e w6 ⟨A6, k6, c6, rfl, g6, hb6⟩
          have hq6 := hq5.keep hb6
          have hB6 := below_step hB5 hb6 (by omega)
          obtain ⟨x0, x1, x2, f0, f1, f2⟩ := cells3 hq6
          obtain ⟨r, hr6⟩ : ∃ r, r = splitA m a := ⟨_, rfl⟩
          rw [← HR.out, ← hr6] at g6 ⊢
          have Hr6 := Lib.hid hr6
          clear hr6 d0 d1 d2 p0 p1 p2 y0 y1 y2 hbk3 hbk4 hq3 hq4 hq5 hm3 hm4 hm5 hps hb6
          go_wp2
          refine bodyPost_ret (results_m rfl rfl (blk_set3 hq6 (.int .i64 r.1.v) (.int .i64 r.1.n) (.slice A6 k6 c6))) rfl ?_
          rw [← Hr6.out]
          exact ans_set (q := w.heap.size + 1) g6 (by omega) (by omega) hB6 _ _ _
end
end Sma
end Go.Proofs.Ytncapionioeieaa
