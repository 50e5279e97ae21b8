/- Layer 13: the document's Merge. Printed by wip/tools/gensmakm.py. -/
import Derived.Test.YtncapionioeieaaSmaK
import Derived.Deep.DeepCutAuto
import Derived.Deep.CutBlock
set_option linter.all false
namespace Go.Proofs.Ytncapionioeieaa
open Go.RowKit
namespace Sma

section
variable (w : World)
set_option maxRecDepth 100000 in
set_option maxHeartbeats 4000000 in
theorem rmerge_ (m : Mp) (A : Option Addr) (k c : Nat) (h : Mr w m A k c) (a : Int) (ha : I64 a) : Calls Try.prog 24 #[mv m A k c, .int .i64 a] w fun e w' => RAns w w' e (mergeA m a) := by
  have hn := h.n
  have ha0 := ha
  unfold I64 at hn ha
  have hbx : Below w.heap.size w ((w.alloc (rmo m A k c)).alloc rzo) := ((Below.refl w.heap.size w).alloc (Nat.le_refl _) _).alloc (by simp) _
  have hbk := (Blk.new w 25 #[.int .i64 m.v, .int .i64 m.n, .slice A k c] rfl).alloc rzo
  have hq := Blk.new (w.alloc (rmo m A k c)) 25 #[.int .i64 0, .int .i64 0, .slice none 0 0] (g := w.heap.size + 1) (by simp)
  have hm1 := h.below hbx
  have hsz : ((w.alloc (rmo m A k c)).alloc rzo).heap.size = w.heap.size + 2 := by simp
  simp only [mv]
  clear h
  cases hr : m.right with
  | false =>
    have HR := Lib.hid (merge_no (a := a) hr)
    go_enter Try.func24, Try.ntmps24
    go_wp2_with fail
    generalize ((w.alloc (rmo m A k c)).alloc rzo) = w1 at *
    refine (rright_ _ m A k c hm1).mono ?_
    rw [hr]
    rintro e w2 ⟨rfl, hb2⟩
    have hq2 := hq.keep hb2
    obtain ⟨x0, x1, x2, f0, f1, f2⟩ := cells3 hq2
    go_wp2
    refine bodyPost_ret (results_r rfl rfl (blk_set3 hq2 (.int .i64 0) (.int .i64 0) (.slice none 0 0))) rfl ?_
    exact rans_zero HR.out (below_set3 (below_step hbx hb2 (by omega)) (by omega) (Nat.le_refl _) _ _ _)
  | true =>
    by_cases h1 : a < 0 ∨ m.n ≤ a
    · have HR := Lib.hid (merge_none hr h1)
      have Hf := Lib.hid (find_none hr h1)
      clear h1
      go_enter Try.func24, Try.ntmps24
      go_wp2_with fail
      generalize ((w.alloc (rmo m A k c)).alloc rzo) = w1 at *
      refine (rright_ _ m _ k c hm1).mono ?_
      rw [hr]
      rintro e w2 ⟨rfl, hb2⟩
      have hq2 := hq.keep hb2
      have hbk2 := hbk.keep hb2
      have hm2 := hm1.below hb2
      have hB2 := below_step hbx hb2 (by omega)
      have hs2 := hb2.size
      clear hq hbk hm1 hb2
      obtain ⟨d0, d1, d2, -, -, -⟩ := cells3 hbk2
      go_wp2_with fail
      refine (rfind_ _ m _ k c hm2 a ha0).mono ?_
      rw [Hf.out]
      rintro e w3 ⟨rfl, hb3⟩
      simp only
      have hq3 := hq2.keep hb3
      have hbk3 := hbk2.keep hb3
      have hm3 := hm2.below hb3
      have hB3 := below_step hB2 hb3 (by omega)
      have hs3 := hb3.size
      clear d0 d1 d2 hq2 hbk2 hm2 hb3 hB2
      obtain ⟨x0, x1, x2, f0, f1, f2⟩ := cells3 hq3
      go_wp2
      refine bodyPost_ret (results_r rfl rfl (blk_set3 hq3 (.int .i64 0) (.int .i64 0) (.slice none 0 0))) rfl ?_
      exact rans_zero HR.out (below_set3 hB3 (by omega) (Nat.le_refl _) _ _ _)
    · obtain ⟨pre, p, post, hat⟩ := at_of hr (a := a) (by omega) (by omega)
      obtain ⟨b, o, rfl, hik, fp, -, -, -⟩ := at_cells hm1 hat.get
      obtain ⟨ff, fe, fn⟩ := fp.all
      have hlen := hm1.len
      have hrr := right_is hr
      have hk16 : k ≤ 16 := by omega
      have hkc : k ≤ c := hm1.le
      have hv1 : 1 ≤ m.v := hrr.1.1
      have hv2 : m.v ≤ 1099511627776 := hrr.1.2
      clear hlen hrr h1
      by_cases hpre : pre = []
      · have HR := Lib.hid (merge_in hr hat (.inl hpre))
        have Hf := Lib.hid (show findA m a = (0, 0) by rw [find_at hr hat, hpre]; rfl)
        clear hat hpre hik
        go_enter Try.func24, Try.ntmps24
        go_wp2_with fail
        generalize ((w.alloc (rmo m (some ⟨b, o, none⟩) k c)).alloc rzo) = w1 at *
        refine (rright_ _ m _ k c hm1).mono ?_
        rw [hr]
        rintro e w2 ⟨rfl, hb2⟩
        have hq2 := hq.keep hb2
        have hbk2 := hbk.keep hb2
        have hm2 := hm1.below hb2
        have hB2 := below_step hbx hb2 (by omega)
        have hs2 := hb2.size
        clear hq hbk hm1 hb2
        obtain ⟨d0, d1, d2, -, -, -⟩ := cells3 hbk2
        go_wp2_with fail
        refine (rfind_ _ m _ k c hm2 a ha0).mono ?_
        rw [Hf.out]
        rintro e w3 ⟨rfl, hb3⟩
        simp only
        have hq3 := hq2.keep hb3
        have hbk3 := hbk2.keep hb3
        have hm3 := hm2.below hb3
        have hB3 := below_step hB2 hb3 (by omega)
        have hs3 := hb3.size
        clear d0 d1 d2 hq2 hbk2 hm2 hb3 hB2
        obtain ⟨x0, x1, x2, f0, f1, f2⟩ := cells3 hq3
        go_wp2
        refine bodyPost_ret (results_r rfl rfl (blk_set3 hq3 (.int .i64 0) (.int .i64 0) (.slice none 0 0))) rfl ?_
        exact rans_zero HR.out (below_set3 hB3 (by omega) (Nat.le_refl _) _ _ _)
      · obtain ⟨i, hi⟩ : ∃ i, pre.length = i := ⟨_, rfl⟩
        have hi1 : 1 ≤ i := by have := List.length_pos_iff.2 hpre; omega
        have Hf := Lib.hid (show findA m a = ((i : Int), 0) by rw [find_at hr hat, hi])
        have Hget := Lib.hid (show m.ps[i]? = some p by rw [← hi]; exact hat.get)
        rw [hi] at hik
        have hi0 : (0 : Int) ≤ (i : Int) := by omega
        have hiK : (i : Int) < (k : Int) := by omega
        have tz : ((i : Int) == 0) = false := by simp; omega
        by_cases hfr : p.fr = a
        · have t0 : (p.fr != a) = false := by simpa using hfr
          rcases List.eq_nil_or_concat pre with e | ⟨pre0, q, e⟩
          · exact absurd e hpre
          rw [List.concat_eq_append] at e
          subst e
          have HS := Lib.hid (merge_at hr hat hfr)
          obtain ⟨j, hj⟩ : ∃ j, pre0.length = j := ⟨_, rfl⟩
          have hij : i = j + 1 := by rw [← hi, ← hj]; simp
          have hps := hat.ps
          have hgq : m.ps[j]? = some q := by rw [hps, ← hj]; simp
          have Hgq := Lib.hid hgq
          have fq : Fit q := hm1.ps.fit q (List.mem_of_getElem? hgq)
          obtain ⟨gf, ge, gn⟩ := fq.all
          have Htake := Lib.hid (show m.ps.take j = pre0 by rw [hps, ← hj]; simp)
          have Hdrop := Lib.hid (show m.ps.drop (i + 1) = post by rw [← hi]; exact hat.drop)
          have hw1 : IntKind.i64.wrap ((i : Int) - 1) = (j : Int) := by rw [IntKind.wrap_i64]; omega
          have hj0 : (0 : Int) ≤ (j : Int) := by omega
          have hjK : (j : Int) < (k : Int) := by omega
          have hjC : (j : Int) ≤ (c : Int) := by omega
          have hjk : j < k := by omega
          have Hij := Lib.hid hij
          clear hat hi hj hps hgq hfr hpre hij
          go_enter Try.func24, Try.ntmps24
          go_wp2_with fail
          generalize ((w.alloc (rmo m (some ⟨b, o, none⟩) k c)).alloc rzo) = w1 at *
          refine (rright_ _ m _ k c hm1).mono ?_
          rw [hr]
          rintro e w2 ⟨rfl, hb2⟩
          have hq2 := hq.keep hb2
          have hbk2 := hbk.keep hb2
          have hm2 := hm1.below hb2
          have hB2 := below_step hbx hb2 (by omega)
          have hs2 := hb2.size
          clear hq hbk hm1 hb2
          obtain ⟨d0, d1, d2, -, -, -⟩ := cells3 hbk2
          go_wp2_with fail
          refine (rfind_ _ m _ k c hm2 a ha0).mono ?_
          rw [Hf.out]
          rintro e w3 ⟨rfl, hb3⟩
          simp only
          have hq3 := hq2.keep hb3
          have hbk3 := hbk2.keep hb3
          have hm3 := hm2.below hb3
          have hB3 := below_step hB2 hb3 (by omega)
          have hs3 := hb3.size
          clear d0 d1 d2 hq2 hbk2 hm2 hb3 hB2
          obtain ⟨d0, d1, d2, -, -, -⟩ := cells3 hbk3
          obtain ⟨b', o', e', -, -, p0, p1, p2⟩ := at_cells hm3 Hget.out
          injection e' with e'
          injection e' with e1 e2
          subst e1 e2
          obtain ⟨b', o', e', -, -, q0, q1, q2⟩ := at_cells hm3 Hgq.out
          injection e' with e'
          injection e' with e1 e2
          subst e1 e2
          go_wp2_with fail
          go_cut [8, 9] from 38 to 48 (fun v8 v9 wc => ∃ G H : Nat, v8 = .pointer (some ⟨G, 0, none⟩) ∧ v9 = .pointer (some ⟨H, 0, none⟩) ∧ Blk wc G 58 #[.int .i64 q.fr, .int .i64 q.en, .int .i64 q.nd] ∧ Blk wc H 58 #[.int .i64 p.fr, .int .i64 p.en, .int .i64 p.nd] ∧ Below w3.heap.size w3 wc ∧ w3.heap.size ≤ G ∧ w3.heap.size ≤ H)
          case first =>
            have := World.new_ne w3 _ d2
            have := World.new_ne w3 _ p0
            have := World.new_ne w3 _ q0
            go_region_held3 (fun w' => w'.cell? ⟨w.heap.size, 2, none⟩ = some (.slice (some ⟨b, o, none⟩) k c) ∧ w'.cell? ⟨b, o + i * 3, none⟩ = some (.int .i64 p.fr) ∧ w'.cell? ⟨b, o + i * 3 + 1, none⟩ = some (.int .i64 p.en) ∧ w'.cell? ⟨b, o + i * 3 + 2, none⟩ = some (.int .i64 p.nd) ∧ w'.cell? ⟨b, o + j * 3, none⟩ = some (.int .i64 q.fr) ∧ w'.cell? ⟨b, o + j * 3 + 1, none⟩ = some (.int .i64 q.en) ∧ w'.cell? ⟨b, o + j * 3 + 2, none⟩ = some (.int .i64 q.nd))
              (first | go_keep | exact ⟨d2, p0, p1, p2, q0, q1, q2⟩)
              (fail)
            · have hx1 := (Blk.new w3 58 #[.int .i64 q.fr, .int .i64 q.en, .int .i64 q.nd] rfl).alloc (po p)
              have hx2 := Blk.new (w3.alloc (po q)) 58 #[.int .i64 p.fr, .int .i64 p.en, .int .i64 p.nd] (g := w3.heap.size + 1) (by simp)
              have hab : Below w3.heap.size w3 ((w3.alloc (po q)).alloc (po p)).drew := below_drewN (((Below.refl w3.heap.size w3).alloc (Nat.le_refl _) (po q)).alloc (by simp) (po p)) 1
              replace hx1 : Blk ((w3.alloc (po q)).alloc (po p)).drew _ _ _ := hx1
              replace hx2 : Blk ((w3.alloc (po q)).alloc (po p)).drew _ _ _ := hx2
              generalize ((w3.alloc (po q)).alloc (po p)).drew = wq at *
              go_wp2_with fail
              go_meet
              exact ⟨w3.heap.size, w3.heap.size + 1, rfl, rfl, hx1, hx2, hab, Nat.le_refl _, Nat.le_succ _⟩
            · have hx1 := (Blk.new w3 58 #[.int .i64 p.fr, .int .i64 p.en, .int .i64 p.nd] rfl).alloc (po q)
              have hx2 := Blk.new (w3.alloc (po p)) 58 #[.int .i64 q.fr, .int .i64 q.en, .int .i64 q.nd] (g := w3.heap.size + 1) (by simp)
              have hab : Below w3.heap.size w3 ((w3.alloc (po p)).alloc (po q)).drew := below_drewN (((Below.refl w3.heap.size w3).alloc (Nat.le_refl _) (po p)).alloc (by simp) (po q)) 1
              replace hx1 : Blk ((w3.alloc (po p)).alloc (po q)).drew _ _ _ := hx1
              replace hx2 : Blk ((w3.alloc (po p)).alloc (po q)).drew _ _ _ := hx2
              generalize ((w3.alloc (po p)).alloc (po q)).drew = wq at *
              go_wp2_with fail
              go_meet
              exact ⟨w3.heap.size + 1, w3.heap.size, rfl, rfl, hx2, hx1, hab, Nat.le_succ _, Nat.le_refl _⟩
          case rest =>
            obtain ⟨G, H, rfl, rfl, hpq, hpp, hab, hG, hH⟩ := hcut
            have hq4 := hq3.keep hab
            have hbk4 := hbk3.keep hab
            have hm4 := hm3.below hab
            have hB4 := below_step hB3 hab (by omega)
            have hszq := hab.size
            clear d0 d1 d2 p0 p1 p2 q0 q1 q2 hq3 hbk3 hm3 hab hB3
            obtain ⟨wq, rfl⟩ : ∃ wq : World, wq = wc := ⟨_, rfl⟩
            obtain ⟨c0, c1, c2, -, -, -⟩ := cells3 hpq
            obtain ⟨e0, e1, e2, -, -, -⟩ := cells3 hpp
            by_cases hnn : q.nd = p.nd
            · have t2 : (q.nd != p.nd) = false := by simp [hnn]
              have HR := Lib.hid (show mergeA m a = nextA m (m.ps.take j ++ ([⟨q.fr, p.en, q.nd⟩] ++ m.ps.drop (i + 1))) by rw [HS.out, if_neg (by simp [hnn]), Htake.out, Hdrop.out, hnn])
              obtain ⟨y0, y1, y2, -, -, -⟩ := cells3 hbk4
              clear hnn
              go_wp2_with fail
              obtain ⟨i0, hi0, hz0, hz1, hz2⟩ := pc_info
              have Hz := Lib.hid hz2
              clear hz2
              have Hfst := hm4.ps.take (i := j) (by omega)
              have hD0 : Below wq.heap.size wq wq.drew := below_drew0 wq
              have hDA : Below wq.heap.size wq (wq.drew.alloc (.cells #[.int .i64 q.fr, .int .i64 p.en, .int .i64 q.nd] 58)) := hD0.alloc (Nat.le_refl _) _
              have z1 : 0 + j ≤ maxLen := by unfold maxLen; omega
              have z2 : (0 + j) * 24 ≤ 140737488355328 := by omega
              have z3 : j + 1 ≤ maxLen := by unfold maxLen; omega
              have z4 : (j + 1) * 24 ≤ 140737488355328 := by omega
              have := World.new_ne wq _ y2
              have := World.new_ne wq _ c0
              have := World.new_ne wq _ c2
              have := World.new_ne wq _ e1
              go_region_held3 (fun w' => w'.cell? ⟨w.heap.size, 2, none⟩ = some (.slice (some ⟨b, o, none⟩) k c) ∧ w'.cell? ⟨G, 0, none⟩ = some (.int .i64 q.fr) ∧ w'.cell? ⟨G, 2, none⟩ = some (.int .i64 q.nd) ∧ w'.cell? ⟨H, 1, none⟩ = some (.int .i64 p.en))
                (first | go_keep | exact ⟨y2, c0, c2, e1⟩ | exact ⟨y2a, c0a, c2a, e1a⟩ | exact ⟨y2b, c0b, c2b, e1b⟩ | exact ⟨y2c, c0c, c2c, e1c⟩ | exact ⟨y2d, c0d, c2d, e1d⟩)
                (first
                  | (refine step_app _ rfl (.const (.slice none 0 0)) (.tmp 59) _ rfl wq.heap.size 58 i0 _ 3 24 Try.underlying23 hi0 hz0 hz1 Hz.out rfl (Nat.zero_lt_succ 2) (.slice none 0 0) 0 [] rfl (own_nil _ _ _ _) (some ⟨b, o, none⟩) j c (pvs (m.ps.take j)) rfl (fun h => by cases h) (show Rd wq.drew (some ⟨b, o, none⟩) 3 j (pvs (m.ps.take j)) from Hfst.rd) (pvs_one _) z1 z2 (Nat.le_refl _) ?_
                     intro v1 w5 hown1 hg1 hat1
                     simp only [Nat.zero_add, List.nil_append] at hown1
                     obtain ⟨A1, c1', rfl, hc1, hcm1, hA1⟩ := own_form hown1
                     have hb1 : Below wq.heap.size wq w5 := hD0.grown hg1 (Nat.le_refl _) (fun k hk => by cases hk)
                     have y2a := (hb1.cell (cell_lt y2)).trans y2
                     have c0a := (hb1.cell (cell_lt c0)).trans c0
                     have c2a := (hb1.cell (cell_lt c2)).trans c2
                     have e1a := (hb1.cell (cell_lt e1)).trans e1
                     have hrd := (ps_one (p := ⟨q.fr, p.en, q.nd⟩) ⟨fq.fr, fp.en, fq.nd⟩ (g := w5.heap.size) (w := w5) rfl).rd
                     have ho1 := own_keep hown1 (show Below w5.heap.size w5 (w5.alloc (.cells #[.int .i64 q.fr, .int .i64 p.en, .int .i64 q.nd] 58)) from (Below.refl _ _).alloc (Nat.le_refl _) _)
                     have hb1' : Below wq.heap.size wq (w5.alloc (.cells #[.int .i64 q.fr, .int .i64 p.en, .int .i64 q.nd] 58)) := hb1.alloc hb1.size _
                     have y2b := (hb1'.cell (cell_lt y2)).trans y2
                     have c0b := (hb1'.cell (cell_lt c0)).trans c0
                     have c2b := (hb1'.cell (cell_lt c2)).trans c2
                     have e1b := (hb1'.cell (cell_lt e1)).trans e1
                     )
                  | (refine step_app _ rfl (.const (.slice none 0 0)) (.tmp 59) _ rfl wq.heap.size 58 i0 _ 3 24 Try.underlying23 hi0 hz0 hz1 Hz.out rfl (Nat.zero_lt_succ 2) (.slice none 0 0) 0 [] rfl (own_nil _ _ _ _) (some ⟨b, o, none⟩) j c (pvs (m.ps.take j)) rfl (fun h => by cases h) (show Rd (wq.drew.alloc (.cells #[.int .i64 q.fr, .int .i64 p.en, .int .i64 q.nd] 58)) (some ⟨b, o, none⟩) 3 j (pvs (m.ps.take j)) from (show Rd wq.drew (some ⟨b, o, none⟩) 3 j (pvs (m.ps.take j)) from Hfst.rd).alloc _) (pvs_one _) z1 z2 hDA.size ?_
                     intro v1 w5 hown1 hg1 hat1
                     simp only [Nat.zero_add, List.nil_append] at hown1
                     obtain ⟨A1, c1', rfl, hc1, hcm1, hA1⟩ := own_form hown1
                     have hb1' : Below wq.heap.size wq w5 := hDA.grown hg1 hDA.size (fun k hk => by cases hk)
                     have y2c := (hb1'.cell (cell_lt y2)).trans y2
                     have c0c := (hb1'.cell (cell_lt c0)).trans c0
                     have c2c := (hb1'.cell (cell_lt c2)).trans c2
                     have e1c := (hb1'.cell (cell_lt e1)).trans e1
                     have hrd : Rd w5 (some ⟨wq.heap.size, 0, none⟩) 3 1 (pvs [⟨q.fr, p.en, q.nd⟩]) := Rd.grown (ps_one (p := ⟨q.fr, p.en, q.nd⟩) ⟨fq.fr, fp.en, fq.nd⟩ (g := wq.heap.size) (w := wq.drew) rfl).rd hg1 (fun a _ => by simp [Value.ownBlock])
                     have ho1 := hown1)
                  | (refine step_app _ rfl (.tmp 60) (.tmp 68) _ rfl wq.heap.size 58 i0 _ 3 24 Try.underlying23 hi0 hz0 hz1 Hz.out rfl (Nat.zero_lt_succ 2) (.slice A1 j c1') j _ rfl ho1 _ 1 1 (pvs [⟨q.fr, p.en, q.nd⟩]) rfl (fun h => by cases h) hrd (pvs_one _) z3 z4 hb1'.size ?_
                     intro v3 w6 hown3 hg3 hat3
                     have hb6 : Below wq.heap.size wq w6 := hb1'.grown hg3 hb1'.size (own_from ho1)
                     have y2d := (hb6.cell (cell_lt y2)).trans y2
                     have c0d := (hb6.cell (cell_lt c0)).trans c0
                     have c2d := (hb6.cell (cell_lt c2)).trans c2
                     have e1d := (hb6.cell (cell_lt e1)).trans e1
                     ))
              all_goals
                have hfnew : ∀ x ∈ m.ps.take j ++ [⟨q.fr, p.en, q.nd⟩], Fit x := fun x hx => by
                  rcases List.mem_append.1 hx with hx | hx
                  · exact fit_take hm4.ps.fit j x hx
                  · simp only [List.mem_cons, List.not_mem_nil, or_false] at hx
                    subst hx
                    exact ⟨fq.fr, fp.en, fq.nd⟩
                have hij := Hij.out
                have ho3 : Po w6 wq.heap.size v3 (j + 1) (m.ps.take j ++ [⟨q.fr, p.en, q.nd⟩]) := po_of hown3 (pvs_app _ _).symm
                obtain ⟨A3, c3, rfl, hc3, hcm3, hA3⟩ := own_form ho3
                have hq6 := hq4.keep hb6
                have hbk6 := hbk4.keep hb6
                have hm6 := hm4.below hb6
                have hB6 := below_step hB4 hb6 (by omega)
                have hs6 := hb6.size
                obtain ⟨u0, u1, u2, -, -, -⟩ := cells3 hbk6
                clear hown3 hg3 hat3
                obtain ⟨s, Hs⟩ : ∃ s, Hid (s = i + 1) := ⟨_, Lib.hid rfl⟩
                have hsk : s ≤ k := by have := Hs.out; omega
                have hs0' : (0 : Int) ≤ (s : Int) := by omega
                have hsk' : (s : Int) ≤ (k : Int) := by omega
                have hws : IntKind.i64.wrap ((i : Int) + 1) = (s : Int) := by have := Hs.out; rw [IntKind.wrap_i64]; omega
                have Hlst := hm6.ps.drop (c := c) hsk hkc
                have HL := Lib.hid (show m.ps.drop s = m.ps.drop (i + 1) by rw [Hs.out])
                have z5 : (j + 1) + (k - s) ≤ maxLen := by unfold maxLen; omega
                have z6 : ((j + 1) + (k - s)) * 24 ≤ 140737488355328 := by omega
                have hfa : ∀ x ∈ (m.ps.take j ++ [⟨q.fr, p.en, q.nd⟩]) ++ m.ps.drop s, Fit x := fun x hx => by
                  rcases List.mem_append.1 hx with hx | hx
                  · exact hfnew x hx
                  · exact fit_drop hm4.ps.fit s x hx
                have hqz : w.heap.size ≤ w.heap.size := Nat.le_refl _
                have hww : w.heap.size ≤ w.heap.size := Nat.le_refl _
                have hMF := hm4.ps.fit
                obtain ⟨r, hr6⟩ : ∃ r, r = mergeA m a := ⟨_, rfl⟩
                have Hnx := Lib.hid (show nextA m ((m.ps.take j ++ [⟨q.fr, p.en, q.nd⟩]) ++ m.ps.drop s) = r by rw [hr6, HR.out, HL.out, List.append_assoc])
                have Hr6 := Lib.hid hr6
                clear hr6
                have hqq : w.heap.size + 1 < wq.heap.size := by omega
                clear hij
                by_cases hcs : c = s
                · rw [if_pos hcs] at Hlst
                  subst hcs
                  have hk0 : k - c = 0 := by omega
                  rw [hk0] at Hlst z5 z6
                  clear hk0
                  go_wp2_with fail
                  go_region_held3 (fun w' => w'.cell? ⟨w.heap.size, 0, none⟩ = some (.int .i64 m.v) ∧ w'.cell? ⟨w.heap.size, 1, none⟩ = some (.int .i64 m.n) ∧ w'.cell? ⟨w.heap.size, 2, none⟩ = some (.slice (some ⟨b, o, none⟩) k c))
                    (first | go_keep | exact ⟨u0, u1, u2⟩ | exact ⟨u0e, u1e, u2e⟩ | exact ⟨u0f, u1f, u2f⟩)
                    (first
                      | (refine step_app _ rfl (.tmp 71) (.tmp 76) _ rfl wq.heap.size 58 i0 _ 3 24 Try.underlying23 hi0 hz0 hz1 Hz.out rfl (Nat.zero_lt_succ 2) (.slice A3 (j + 1) c3) (j + 1) _ rfl (show w6.drew.ownsRow wq.heap.size _ _ _ _ _ from ho3) (some ⟨b, o, none⟩) 0 0 (pvs (m.ps.drop c)) rfl (fun h => by cases h) (show Rd w6.drew _ _ _ _ from Hlst.rd) (pvs_one _) z5 z6 hs6 ?_
                         intro v7 w8 hown7 hg7 hat7
                         rw [← pvs_app] at hown7
                         have hb8 : Below wq.heap.size wq w8 := (below_drewN hb6 1).grown hg7 hs6 (own_from ho3)
                         have hbk8 := hbk4.keep hb8
                         have hq8 := hq4.keep hb8
                         have hm8 := hm4.below hb8
                         have hB8 := below_step hB4 hb8 hqz
                         obtain ⟨u0e, u1e, u2e, -, -, -⟩ := cells3 hbk8
                         obtain ⟨A7, c7, rfl, hc7, hcm7, hA7⟩ := own_form hown7
                         have hps7 := po_ps hown7 hfa)
                      | (go_at_call 39
                         refine (rnext_ _ m _ k c hm8 hv1 hv2 A7 _ c7 _ hps7 hc7 hcm7 (fun h => (hA7 h).2)).mono ?_
                         rw [Hnx.out]
                         rintro e w9 ⟨A9, k9, c9, rfl, g9, hA9, hb9⟩
                         have hq9 := hq8.keep hb9
                         have hbk9 := hbk8.keep hb9
                         have hB9 := below_step hB8 hb9 hww
                         obtain ⟨x0, x1, x2, f0, f1, f2⟩ := cells3 hq9
                         have hne9 : ∀ a, A9 = some a → a.block ≠ w.heap.size + 1 := fun a e => by
                           rcases hA9 with h9 | h9
                           · rw [h9] at e; cases e
                           · have := own_blk hown7 a (h9.symm.trans e)
                             omega
                         obtain ⟨u0f, u1f, u2f, -, -, -⟩ := cells3 hbk9))
                  have hqz9 := blk_set3 hq9 (.int .i64 r.1.v) (.int .i64 r.1.n) (.slice A9 k9 c9)
                  have hAns : RAns w (((w9.setCell ⟨w.heap.size + 1, 0, none⟩ (.int .i64 r.1.v)).setCell ⟨w.heap.size + 1, 1, none⟩ (.int .i64 r.1.n)).setCell ⟨w.heap.size + 1, 2, none⟩ (.slice A9 k9 c9)) (.returned (.tuple #[mv r.1 A9 k9 c9, .int .i64 r.2])) r := rans_set (q := w.heap.size + 1) g9 hne9 (by omega) hB9 _ _ _
                  generalize (((w9.setCell ⟨w.heap.size + 1, 0, none⟩ (.int .i64 r.1.v)).setCell ⟨w.heap.size + 1, 1, none⟩ (.int .i64 r.1.n)).setCell ⟨w.heap.size + 1, 2, none⟩ (.slice A9 k9 c9)) = wz at *
                  rename (∀ (a : Act) (w : World), Code.wp _ _ _ _ _ → _) => a9
                  refine a9 _ _ ?_
                  clear a9
                  go_step
                  refine bodyPost_ret (results_r rfl rfl hqz9) rfl ?_
                  rw [← Hr6.out]
                  exact hAns
                · rw [if_neg hcs] at Hlst
                  replace Hlst : Ps w6 (some ⟨b, o + s * 3, none⟩) (k - s) (m.ps.drop s) := by simpa only [Option.map_some, add_plain] using Hlst
                  go_wp2_with fail
                  go_region_held3 (fun w' => w'.cell? ⟨w.heap.size, 0, none⟩ = some (.int .i64 m.v) ∧ w'.cell? ⟨w.heap.size, 1, none⟩ = some (.int .i64 m.n) ∧ w'.cell? ⟨w.heap.size, 2, none⟩ = some (.slice (some ⟨b, o, none⟩) k c))
                    (first | go_keep | exact ⟨u0, u1, u2⟩ | exact ⟨u0e, u1e, u2e⟩ | exact ⟨u0f, u1f, u2f⟩)
                    (first
                      | (refine step_app _ rfl (.tmp 71) (.tmp 76) _ rfl wq.heap.size 58 i0 _ 3 24 Try.underlying23 hi0 hz0 hz1 Hz.out rfl (Nat.zero_lt_succ 2) (.slice A3 (j + 1) c3) (j + 1) _ rfl (show w6.drew.ownsRow wq.heap.size _ _ _ _ _ from ho3) (some ⟨b, o + s * 3, none⟩) (k - s) (c - s) (pvs (m.ps.drop s)) rfl (fun h => by cases h) (show Rd w6.drew _ _ _ _ from Hlst.rd) (pvs_one _) z5 z6 hs6 ?_
                         intro v7 w8 hown7 hg7 hat7
                         rw [← pvs_app] at hown7
                         have hb8 : Below wq.heap.size wq w8 := (below_drewN hb6 1).grown hg7 hs6 (own_from ho3)
                         have hbk8 := hbk4.keep hb8
                         have hq8 := hq4.keep hb8
                         have hm8 := hm4.below hb8
                         have hB8 := below_step hB4 hb8 hqz
                         obtain ⟨u0e, u1e, u2e, -, -, -⟩ := cells3 hbk8
                         obtain ⟨A7, c7, rfl, hc7, hcm7, hA7⟩ := own_form hown7
                         have hps7 := po_ps hown7 hfa)
                      | (go_at_call 39
                         refine (rnext_ _ m _ k c hm8 hv1 hv2 A7 _ c7 _ hps7 hc7 hcm7 (fun h => (hA7 h).2)).mono ?_
                         rw [Hnx.out]
                         rintro e w9 ⟨A9, k9, c9, rfl, g9, hA9, hb9⟩
                         have hq9 := hq8.keep hb9
                         have hbk9 := hbk8.keep hb9
                         have hB9 := below_step hB8 hb9 hww
                         obtain ⟨x0, x1, x2, f0, f1, f2⟩ := cells3 hq9
                         have hne9 : ∀ a, A9 = some a → a.block ≠ w.heap.size + 1 := fun a e => by
                           rcases hA9 with h9 | h9
                           · rw [h9] at e; cases e
                           · have := own_blk hown7 a (h9.symm.trans e)
                             omega
                         obtain ⟨u0f, u1f, u2f, -, -, -⟩ := cells3 hbk9))
                  have hqz9 := blk_set3 hq9 (.int .i64 r.1.v) (.int .i64 r.1.n) (.slice A9 k9 c9)
                  have hAns : RAns w (((w9.setCell ⟨w.heap.size + 1, 0, none⟩ (.int .i64 r.1.v)).setCell ⟨w.heap.size + 1, 1, none⟩ (.int .i64 r.1.n)).setCell ⟨w.heap.size + 1, 2, none⟩ (.slice A9 k9 c9)) (.returned (.tuple #[mv r.1 A9 k9 c9, .int .i64 r.2])) r := rans_set (q := w.heap.size + 1) g9 hne9 (by omega) hB9 _ _ _
                  generalize (((w9.setCell ⟨w.heap.size + 1, 0, none⟩ (.int .i64 r.1.v)).setCell ⟨w.heap.size + 1, 1, none⟩ (.int .i64 r.1.n)).setCell ⟨w.heap.size + 1, 2, none⟩ (.slice A9 k9 c9)) = wz at *
                  rename (∀ (a : Act) (w : World), Code.wp _ _ _ _ _ → _) => a9
                  refine a9 _ _ ?_
                  clear a9
                  go_step
                  refine bodyPost_ret (results_r rfl rfl hqz9) rfl ?_
                  rw [← Hr6.out]
                  exact hAns
            · have t2 : (q.nd != p.nd) = true := by simp [hnn]
              have HR := Lib.hid (show mergeA m a = (zM, 1) by rw [HS.out, if_pos hnn])
              obtain ⟨x0, x1, x2, f0, f1, f2⟩ := cells3 hq4
              clear hnn
              go_wp2
              refine bodyPost_ret (results_r rfl rfl (blk_set3 hq4 (.int .i64 0) (.int .i64 0) (.slice none 0 0))) rfl ?_
              exact rans_zero HR.out (below_set3 hB4 (by omega) (Nat.le_refl _) _ _ _)
        · have t0 : (p.fr != a) = true := by simpa using hfr
          have HR := Lib.hid (merge_in hr hat (.inr hfr))
          clear hat hi hpre hfr
          go_enter Try.func24, Try.ntmps24
          go_wp2_with fail
          generalize ((w.alloc (rmo m (some ⟨b, o, none⟩) k c)).alloc rzo) = w1 at *
          refine (rright_ _ m _ k c hm1).mono ?_
          rw [hr]
          rintro e w2 ⟨rfl, hb2⟩
          have hq2 := hq.keep hb2
          have hbk2 := hbk.keep hb2
          have hm2 := hm1.below hb2
          have hB2 := below_step hbx hb2 (by omega)
          have hs2 := hb2.size
          clear hq hbk hm1 hb2
          obtain ⟨d0, d1, d2, -, -, -⟩ := cells3 hbk2
          go_wp2_with fail
          refine (rfind_ _ m _ k c hm2 a ha0).mono ?_
          rw [Hf.out]
          rintro e w3 ⟨rfl, hb3⟩
          simp only
          have hq3 := hq2.keep hb3
          have hbk3 := hbk2.keep hb3
          have hm3 := hm2.below hb3
          have hB3 := below_step hB2 hb3 (by omega)
          have hs3 := hb3.size
          clear d0 d1 d2 hq2 hbk2 hm2 hb3 hB2
          obtain ⟨d0, d1, d2, -, -, -⟩ := cells3 hbk3
          obtain ⟨b', o', e', -, -, p0, p1, p2⟩ := at_cells hm3 Hget.out
          injection e' with e'
          injection e' with e1 e2
          subst e1 e2
          obtain ⟨x0, x1, x2, f0, f1, f2⟩ := cells3 hq3
          go_wp2
          refine bodyPost_ret (results_r rfl rfl (blk_set3 hq3 (.int .i64 0) (.int .i64 0) (.slice none 0 0))) rfl ?_
          exact rans_zero HR.out (below_set3 hB3 (by omega) (Nat.le_refl _) _ _ _)
end
end Sma
end Go.Proofs.Ytncapionioeieaa
