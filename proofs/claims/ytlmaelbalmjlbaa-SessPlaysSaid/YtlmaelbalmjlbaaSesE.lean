/- Layer 16: refuse. -/
import Derived.Test.YtlmaelbalmjlbaaSesD
set_option linter.all false
namespace Go.Proofs.Ytlmaelbalmjlbaa
open Go.RowKit
namespace Ses
open Net
theorem eq_t {x y : Int} (h : x = y) : (x == y) = true := by simpa using h
theorem eq_f {x y : Int} (h : ¬ x = y) : (x == y) = false := by simpa using h
theorem mdt_drewN {w : World} {m : Ms} {X : Option Addr} {n c : Nat} (h : Mdt w m X n c) (k : Nat) : Mdt (w.drewN k) m X n c := ⟨h.bs.drewN k, h.nil, h.le, h.cap, h.far, h.fit⟩
theorem ne_f {x y : Int} (h : x = y) : (x != y) = false := by simpa using h
theorem ne_t {x y : Int} (h : ¬ x = y) : (x != y) = true := by simpa using h
section
variable (w : World)
set_option maxRecDepth 100000 in
set_option maxHeartbeats 8000000 in
theorem refuse_ (b : Nat) (U : Nat → Prop) (e : En) (h : Ed w b U e) (hl : e.l.length ≤ 1000000000000000000) (m : Ms) (X : Option Addr) (n c : Nat) (hm : Mdt w m X n c) :
    Calls Try.prog 36 #[.pointer (some ⟨b, 0, none⟩), .agg (ma m (.slice X n c))] w fun r w' => r = .returned (.int .i64 (wrnE e m)) ∧ Below w.heap.size w w' := by
  obtain ⟨A, q, L, h⟩ := h
  have HQ := Lib.hid h.len
  have hq8 := h.n8
  have hack := h.ack
  have hbl := h.blk.lt
  have hac := Blk.new w 36 (ma m (.slice X n c)) rfl
  obtain ⟨w1, hw1⟩ : ∃ w1, w.alloc (.cells (ma m (.slice X n c)) 36) = w1 := ⟨_, rfl⟩
  have hs1 : w1.heap.size = w.heap.size + 1 := by rw [← hw1]; simp
  have hb1 : Below w.heap.size w w1 := by rw [← hw1]; exact (Below.refl _ _).alloc (Nat.le_refl _) _
  rw [hw1] at hac
  have hk1 := h.blk.keep hb1
  have hm1 := hm.below hb1
  have hG := given_ w1 b e A q hk1
  obtain ⟨d0, d1, d2, d3, d4, d5, d6⟩ := ma_blk hac
  obtain ⟨_, c1, c2, c3, c4, c5, _, _⟩ := ea_cells hk1
  obtain ⟨a0, ha0⟩ : ∃ a0, e.a = a0 := ⟨_, rfl⟩
  have Ha := Lib.hid ha0
  rw [ha0] at c4 hack
  have ha1 : a0 ≤ 1000000000000000000 := by omega
  clear h hm ha0
  by_cases g1 : m.fr = e.p
  · by_cases g2 : m.to = e.n
    · by_cases g3 : m.k = 1 ∨ m.k = 2
      · by_cases g4 : m.ep < e.ep
        · have HE := Lib.hid (show wrnE e m = 14 by unfold wrnE; rw [if_neg (by omega), if_pos g4])
          have t1 := eq_t g1
          have t1n := ne_f g1
          have t2 := eq_t g2
          have t2n := ne_f g2
          rcases g3 with g3 | g3
          · have t3 := eq_t g3
            have t3n := ne_f g3
            have t4 := eq_f (show ¬ m.k = 2 by omega)
            have t4n := ne_t (show ¬ m.k = 2 by omega)
            clear g1 g2 g3
            go_enter Try.func36, Try.ntmps36
            go_wp2_with fail
            refine hG.mono ?_
            rintro r w' ⟨rfl, rfl⟩
            go_wp2_with fail
            go_quiet (fail)
            go_wp2_with fail
            go_quiet (fail)
            go_wp2
            go_ret
            rw [HE.out]
            exact ⟨rfl, below_drewN (below_drewN (hb1) _) _⟩
          · have t3 := eq_f (show ¬ m.k = 1 by omega)
            have t3n := ne_t (show ¬ m.k = 1 by omega)
            have t4 := eq_t g3
            have t4n := ne_f g3
            clear g1 g2 g3
            go_enter Try.func36, Try.ntmps36
            go_wp2_with fail
            refine hG.mono ?_
            rintro r w' ⟨rfl, rfl⟩
            go_wp2_with fail
            go_quiet (fail)
            go_wp2_with fail
            go_quiet (fail)
            go_wp2
            go_ret
            rw [HE.out]
            exact ⟨rfl, below_drewN (below_drewN (hb1) _) _⟩
        · by_cases g5 : e.ep < m.ep
          · have HE := Lib.hid (show wrnE e m = 11 by unfold wrnE; rw [if_neg (by omega), if_neg g4, if_pos g5])
            have t1 := eq_t g1
            have t1n := ne_f g1
            have t2 := eq_t g2
            have t2n := ne_f g2
            rcases g3 with g3 | g3
            · have t3 := eq_t g3
              have t3n := ne_f g3
              have t4 := eq_f (show ¬ m.k = 2 by omega)
              have t4n := ne_t (show ¬ m.k = 2 by omega)
              clear g1 g2 g3
              go_enter Try.func36, Try.ntmps36
              go_wp2_with fail
              refine hG.mono ?_
              rintro r w' ⟨rfl, rfl⟩
              go_wp2_with fail
              go_quiet (fail)
              go_wp2_with fail
              go_quiet (fail)
              go_wp2_with fail
              go_quiet (fail)
              go_wp2
              go_ret
              rw [HE.out]
              exact ⟨rfl, below_drewN (below_drewN (below_drewN (hb1) _) _) _⟩
            · have t3 := eq_f (show ¬ m.k = 1 by omega)
              have t3n := ne_t (show ¬ m.k = 1 by omega)
              have t4 := eq_t g3
              have t4n := ne_f g3
              clear g1 g2 g3
              go_enter Try.func36, Try.ntmps36
              go_wp2_with fail
              refine hG.mono ?_
              rintro r w' ⟨rfl, rfl⟩
              go_wp2_with fail
              go_quiet (fail)
              go_wp2_with fail
              go_quiet (fail)
              go_wp2_with fail
              go_quiet (fail)
              go_wp2
              go_ret
              rw [HE.out]
              exact ⟨rfl, below_drewN (below_drewN (below_drewN (hb1) _) _) _⟩
          · by_cases g6 : m.ac < 0
            · have HE := Lib.hid (show wrnE e m = 5 by unfold wrnE; rw [if_neg (by omega), if_neg g4, if_neg g5, if_pos (.inl g6)])
              have t1 := eq_t g1
              have t1n := ne_f g1
              have t2 := eq_t g2
              have t2n := ne_f g2
              rcases g3 with g3 | g3
              · have t3 := eq_t g3
                have t3n := ne_f g3
                have t4 := eq_f (show ¬ m.k = 2 by omega)
                have t4n := ne_t (show ¬ m.k = 2 by omega)
                clear g1 g2 g3
                go_enter Try.func36, Try.ntmps36
                go_wp2_with fail
                refine hG.mono ?_
                rintro r w' ⟨rfl, rfl⟩
                go_wp2_with fail
                go_quiet (fail)
                go_wp2_with fail
                go_quiet (fail)
                go_wp2_with fail
                go_quiet (fail)
                go_wp2_with fail
                go_quiet (fail)
                go_wp2
                go_ret
                rw [HE.out]
                exact ⟨rfl, below_drewN (below_drewN (below_drewN (below_drewN (hb1) _) _) _) _⟩
              · have t3 := eq_f (show ¬ m.k = 1 by omega)
                have t3n := ne_t (show ¬ m.k = 1 by omega)
                have t4 := eq_t g3
                have t4n := ne_f g3
                clear g1 g2 g3
                go_enter Try.func36, Try.ntmps36
                go_wp2_with fail
                refine hG.mono ?_
                rintro r w' ⟨rfl, rfl⟩
                go_wp2_with fail
                go_quiet (fail)
                go_wp2_with fail
                go_quiet (fail)
                go_wp2_with fail
                go_quiet (fail)
                go_wp2_with fail
                go_quiet (fail)
                go_wp2
                go_ret
                rw [HE.out]
                exact ⟨rfl, below_drewN (below_drewN (below_drewN (below_drewN (hb1) _) _) _) _⟩
            · by_cases g7 : ((a0 + q : Nat) : Int) < m.ac
              · have HE := Lib.hid (show wrnE e m = 5 by unfold wrnE; rw [if_neg (by omega), if_neg g4, if_neg g5, if_pos (.inr (.inl (by have := HQ.out; have := Ha.out; omega)))])
                have t1 := eq_t g1
                have t1n := ne_f g1
                have t2 := eq_t g2
                have t2n := ne_f g2
                rcases g3 with g3 | g3
                · have t3 := eq_t g3
                  have t3n := ne_f g3
                  have t4 := eq_f (show ¬ m.k = 2 by omega)
                  have t4n := ne_t (show ¬ m.k = 2 by omega)
                  clear g1 g2 g3
                  have hw : IntKind.i64.wrap ((a0 : Int) + (q : Int)) = ((a0 + q : Nat) : Int) := by rw [IntKind.wrap_i64]; omega
                  have g6d : decide (m.ac < 0) = false := by simpa using g6
                  have g7d : decide ((((a0 + q : Nat)) : Int) < m.ac) = true := by simpa using g7
                  have g7e : decide ((a0 : Int) + (q : Int) < m.ac) = true := by rw [decide_eq_true_eq]; omega
                  go_enter Try.func36, Try.ntmps36
                  go_wp2_with fail
                  refine hG.mono ?_
                  rintro r w' ⟨rfl, rfl⟩
                  go_wp2_with fail
                  go_quiet (fail)
                  go_wp2_with fail
                  go_quiet (fail)
                  go_wp2_with fail
                  go_quiet (fail)
                  go_wp2_with fail
                  go_quiet (fail)
                  go_wp2
                  go_ret
                  rw [HE.out]
                  exact ⟨rfl, below_drewN (below_drewN (below_drewN (below_drewN (hb1) _) _) _) _⟩
                · have t3 := eq_f (show ¬ m.k = 1 by omega)
                  have t3n := ne_t (show ¬ m.k = 1 by omega)
                  have t4 := eq_t g3
                  have t4n := ne_f g3
                  clear g1 g2 g3
                  have hw : IntKind.i64.wrap ((a0 : Int) + (q : Int)) = ((a0 + q : Nat) : Int) := by rw [IntKind.wrap_i64]; omega
                  have g6d : decide (m.ac < 0) = false := by simpa using g6
                  have g7d : decide ((((a0 + q : Nat)) : Int) < m.ac) = true := by simpa using g7
                  have g7e : decide ((a0 : Int) + (q : Int) < m.ac) = true := by rw [decide_eq_true_eq]; omega
                  go_enter Try.func36, Try.ntmps36
                  go_wp2_with fail
                  refine hG.mono ?_
                  rintro r w' ⟨rfl, rfl⟩
                  go_wp2_with fail
                  go_quiet (fail)
                  go_wp2_with fail
                  go_quiet (fail)
                  go_wp2_with fail
                  go_quiet (fail)
                  go_wp2_with fail
                  go_quiet (fail)
                  go_wp2
                  go_ret
                  rw [HE.out]
                  exact ⟨rfl, below_drewN (below_drewN (below_drewN (below_drewN (hb1) _) _) _) _⟩
              · have t1 := eq_t g1
                have t1n := ne_f g1
                have t2 := eq_t g2
                have t2n := ne_f g2
                rcases g3 with g3 | g3
                · have t3 := eq_t g3
                  have t3n := ne_f g3
                  have t4 := eq_f (show ¬ m.k = 2 by omega)
                  have t4n := ne_t (show ¬ m.k = 2 by omega)
                  have HE := Lib.hid (show wrnE e m = (if (if m.k = 2 then decide (m.sq = 0 ∧ m.d.length = 0) else decide (1 ≤ m.sq ∧ m.d.length ≤ 1200)) = true then 0 else 5) by
                    unfold wrnE
                    rw [if_neg (by omega), if_neg g4, if_neg g5]
                    have := HQ.out
                    have := Ha.out
                    rw [if_neg (show ¬ m.k = 2 by omega)]
                    by_cases hd : 1200 < m.d.length
                    · rw [if_pos (.inr (.inr hd)), if_neg (by rw [decide_eq_true_eq]; omega)]
                    · rw [if_neg (by omega)]
                      by_cases hs : m.sq < 1
                      · rw [if_pos (.inl ⟨g3, hs⟩), if_neg (by rw [decide_eq_true_eq]; omega)]
                      · rw [if_neg (by omega), if_pos (by rw [decide_eq_true_eq]; omega)])
                  clear g1 g2 g3
                  have hw : IntKind.i64.wrap ((a0 : Int) + (q : Int)) = ((a0 + q : Nat) : Int) := by rw [IntKind.wrap_i64]; omega
                  have g6d : decide (m.ac < 0) = false := by simpa using g6
                  have g7d : decide ((((a0 + q : Nat)) : Int) < m.ac) = false := by simpa using g7
                  have g7e : decide ((a0 : Int) + (q : Int) < m.ac) = false := by rw [decide_eq_false_iff_not]; omega
                  obtain ⟨fb, hfb⟩ : ∃ fb, (if m.k = 2 then decide (m.sq = 0 ∧ m.d.length = 0) else decide (1 ≤ m.sq ∧ m.d.length ≤ 1200)) = fb := ⟨_, rfl⟩
                  rw [hfb] at HE
                  have HFB := Lib.hid hfb
                  clear hfb
                  go_enter Try.func36, Try.ntmps36
                  go_wp2_with fail
                  refine hG.mono ?_
                  rintro r w' ⟨rfl, rfl⟩
                  go_wp2_with fail
                  go_quiet (fail)
                  go_wp2_with fail
                  go_quiet (fail)
                  go_wp2_with fail
                  go_quiet (fail)
                  go_wp2_with fail
                  have hlW : w.heap.size < w1.heap.size := by omega
                  have hlB : b < w1.heap.size := by omega
                  go_region_held3 (fun w2 => w2.cell? ⟨w.heap.size, 0, none⟩ = some (.int .i64 m.fr) ∧ w2.cell? ⟨w.heap.size, 1, none⟩ = some (.int .i64 m.to) ∧ w2.cell? ⟨w.heap.size, 2, none⟩ = some (.int .i64 m.k) ∧ w2.cell? ⟨w.heap.size, 3, none⟩ = some (.int .i64 m.ep) ∧ w2.cell? ⟨w.heap.size, 4, none⟩ = some (.int .i64 m.sq) ∧ w2.cell? ⟨w.heap.size, 5, none⟩ = some (.int .i64 m.ac) ∧ w2.cell? ⟨w.heap.size, 6, none⟩ = some (.slice X n c) ∧ w2.cell? ⟨b, 4, none⟩ = some (.int .i64 (a0 : Int)) ∧ w2.cell? ⟨b, 5, none⟩ = some (.slice A q q))
                    (first | go_keep | exact ⟨d0, d1, d2, d3, d4, d5, d6, c4, c5⟩ | exact ⟨(hbF.cell (show w.heap.size < _ from hlW)).trans d0, (hbF.cell (show w.heap.size < _ from hlW)).trans d1, (hbF.cell (show w.heap.size < _ from hlW)).trans d2, (hbF.cell (show w.heap.size < _ from hlW)).trans d3, (hbF.cell (show w.heap.size < _ from hlW)).trans d4, (hbF.cell (show w.heap.size < _ from hlW)).trans d5, (hbF.cell (show w.heap.size < _ from hlW)).trans d6, (hbF.cell (show b < _ from hlB)).trans c4, (hbF.cell (show b < _ from hlB)).trans c5⟩)
                    (first | (go_at_call 46; refine (formed_ (w1.drewN _) m X n c (mdt_drewN hm1 _)).mono ?_; rw [HFB.out]; rintro r wF ⟨rfl, hbF⟩))
                  cases fb with
                  | true =>
                    go_wp2
                    go_ret
                    rw [HE.out]
                    exact ⟨(by first | rfl | simp), below_step (below_drewN hb1 _) hbF (by omega)⟩
                  | false =>
                    go_wp2
                    go_ret
                    rw [HE.out]
                    exact ⟨(by first | rfl | simp), below_step (below_drewN hb1 _) hbF (by omega)⟩
                · have t3 := eq_f (show ¬ m.k = 1 by omega)
                  have t3n := ne_t (show ¬ m.k = 1 by omega)
                  have t4 := eq_t g3
                  have t4n := ne_f g3
                  have HE := Lib.hid (show wrnE e m = (if (if m.k = 2 then decide (m.sq = 0 ∧ m.d.length = 0) else decide (1 ≤ m.sq ∧ m.d.length ≤ 1200)) = true then 0 else 5) by
                    unfold wrnE
                    rw [if_neg (by omega), if_neg g4, if_neg g5]
                    have := HQ.out
                    have := Ha.out
                    rw [if_pos g3]
                    by_cases hd : 1200 < m.d.length
                    · rw [if_pos (.inr (.inr hd)), if_neg (by rw [decide_eq_true_eq]; omega)]
                    · rw [if_neg (by omega)]
                      by_cases hs : m.sq = 0 ∧ m.d.length = 0
                      · rw [if_neg (by omega), if_pos (by simpa using hs)]
                      · rw [if_pos (by omega), if_neg (by simpa using hs)])
                  clear g1 g2 g3
                  have hw : IntKind.i64.wrap ((a0 : Int) + (q : Int)) = ((a0 + q : Nat) : Int) := by rw [IntKind.wrap_i64]; omega
                  have g6d : decide (m.ac < 0) = false := by simpa using g6
                  have g7d : decide ((((a0 + q : Nat)) : Int) < m.ac) = false := by simpa using g7
                  have g7e : decide ((a0 : Int) + (q : Int) < m.ac) = false := by rw [decide_eq_false_iff_not]; omega
                  obtain ⟨fb, hfb⟩ : ∃ fb, (if m.k = 2 then decide (m.sq = 0 ∧ m.d.length = 0) else decide (1 ≤ m.sq ∧ m.d.length ≤ 1200)) = fb := ⟨_, rfl⟩
                  rw [hfb] at HE
                  have HFB := Lib.hid hfb
                  clear hfb
                  go_enter Try.func36, Try.ntmps36
                  go_wp2_with fail
                  refine hG.mono ?_
                  rintro r w' ⟨rfl, rfl⟩
                  go_wp2_with fail
                  go_quiet (fail)
                  go_wp2_with fail
                  go_quiet (fail)
                  go_wp2_with fail
                  go_quiet (fail)
                  go_wp2_with fail
                  have hlW : w.heap.size < w1.heap.size := by omega
                  have hlB : b < w1.heap.size := by omega
                  go_region_held3 (fun w2 => w2.cell? ⟨w.heap.size, 0, none⟩ = some (.int .i64 m.fr) ∧ w2.cell? ⟨w.heap.size, 1, none⟩ = some (.int .i64 m.to) ∧ w2.cell? ⟨w.heap.size, 2, none⟩ = some (.int .i64 m.k) ∧ w2.cell? ⟨w.heap.size, 3, none⟩ = some (.int .i64 m.ep) ∧ w2.cell? ⟨w.heap.size, 4, none⟩ = some (.int .i64 m.sq) ∧ w2.cell? ⟨w.heap.size, 5, none⟩ = some (.int .i64 m.ac) ∧ w2.cell? ⟨w.heap.size, 6, none⟩ = some (.slice X n c) ∧ w2.cell? ⟨b, 4, none⟩ = some (.int .i64 (a0 : Int)) ∧ w2.cell? ⟨b, 5, none⟩ = some (.slice A q q))
                    (first | go_keep | exact ⟨d0, d1, d2, d3, d4, d5, d6, c4, c5⟩ | exact ⟨(hbF.cell (show w.heap.size < _ from hlW)).trans d0, (hbF.cell (show w.heap.size < _ from hlW)).trans d1, (hbF.cell (show w.heap.size < _ from hlW)).trans d2, (hbF.cell (show w.heap.size < _ from hlW)).trans d3, (hbF.cell (show w.heap.size < _ from hlW)).trans d4, (hbF.cell (show w.heap.size < _ from hlW)).trans d5, (hbF.cell (show w.heap.size < _ from hlW)).trans d6, (hbF.cell (show b < _ from hlB)).trans c4, (hbF.cell (show b < _ from hlB)).trans c5⟩)
                    (first | (go_at_call 46; refine (formed_ (w1.drewN _) m X n c (mdt_drewN hm1 _)).mono ?_; rw [HFB.out]; rintro r wF ⟨rfl, hbF⟩))
                  cases fb with
                  | true =>
                    go_wp2
                    go_ret
                    rw [HE.out]
                    exact ⟨(by first | rfl | simp), below_step (below_drewN hb1 _) hbF (by omega)⟩
                  | false =>
                    go_wp2
                    go_ret
                    rw [HE.out]
                    exact ⟨(by first | rfl | simp), below_step (below_drewN hb1 _) hbF (by omega)⟩
      · have HE := Lib.hid (show wrnE e m = 1 by unfold wrnE; rw [if_pos (by omega)])
        have t1 := eq_t g1
        have t1n := ne_f g1
        have t2 := eq_t g2
        have t2n := ne_f g2
        have t3 := eq_f (show ¬ m.k = 1 by omega)
        have t3n := ne_t (show ¬ m.k = 1 by omega)
        have t4 := eq_f (show ¬ m.k = 2 by omega)
        have t4n := ne_t (show ¬ m.k = 2 by omega)
        clear g1 g2 g3
        go_enter Try.func36, Try.ntmps36
        go_wp2_with fail
        refine hG.mono ?_
        rintro r w' ⟨rfl, rfl⟩
        go_wp2_with fail
        go_quiet (fail)
        go_wp2
        go_ret
        rw [HE.out]
        exact ⟨rfl, below_drewN (hb1) _⟩
    · have HE := Lib.hid (show wrnE e m = 1 by unfold wrnE; rw [if_pos (.inr (.inl g2))])
      have t1 := eq_t g1
      have t1n := ne_f g1
      have t2 := eq_f g2
      have t2n := ne_t g2
      clear g1 g2
      go_enter Try.func36, Try.ntmps36
      go_wp2_with fail
      refine hG.mono ?_
      rintro r w' ⟨rfl, rfl⟩
      go_wp2_with fail
      go_quiet (fail)
      go_wp2
      go_ret
      rw [HE.out]
      exact ⟨rfl, below_drewN (hb1) _⟩
  · have HE := Lib.hid (show wrnE e m = 1 by unfold wrnE; rw [if_pos (.inl g1)])
    have t1 := eq_f g1
    have t1n := ne_t g1
    clear g1
    go_enter Try.func36, Try.ntmps36
    go_wp2_with fail
    refine hG.mono ?_
    rintro r w' ⟨rfl, rfl⟩
    go_wp2_with fail
    go_quiet (fail)
    go_wp2
    go_ret
    rw [HE.out]
    exact ⟨rfl, below_drewN (hb1) _⟩
end
end Ses
end Go.Proofs.Ytlmaelbalmjlbaa
