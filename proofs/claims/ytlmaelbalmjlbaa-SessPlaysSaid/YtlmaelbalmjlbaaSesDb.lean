/- Layer 16: the document's wrong. -/
import Derived.Test.YtlmaelbalmjlbaaSesDa
set_option linter.all false
namespace Go.Proofs.Ytlmaelbalmjlbaa
open Go.RowKit
namespace Ses
open Net
section
variable (w : World)
set_option maxRecDepth 100000 in
set_option maxHeartbeats 8000000 in
theorem rwrong_ (r : Nat) (U : Nat → Prop) (e : En) (h : Rx w r U e) (m : Ms) (X : Option Addr) (n c : Nat) (hm : Mdt w m X n c) :
    Calls Try.prog 38 #[.pointer (some ⟨r, 0, none⟩), .agg (ma m (.slice X n c))] w fun z w' => z = .returned (.int .i64 (wrnE e m)) ∧ Below w.heap.size w w' := by
  obtain ⟨A, q, cc, L, h⟩ := h
  have HQ := Lib.hid h.len
  have HN := Lib.hid hm.len
  have hac := Blk.new w 36 (ma m (.slice X n c)) rfl
  obtain ⟨w1, hw1⟩ : ∃ w1, w.alloc (.cells (ma m (.slice X n c)) 36) = w1 := ⟨_, rfl⟩
  have hb1 : Below w.heap.size w w1 := by rw [← hw1]; exact (Below.refl _ _).alloc (Nat.le_refl _) _
  rw [hw1] at hac
  have hk1 := h.blk.keep hb1
  obtain ⟨d0, d1, d2, d3, d4, d5, d6⟩ := ma_blk hac
  obtain ⟨c0, c1, c2, c3, _, _, _⟩ := ra_cells hk1
  clear h hm hac hk1
  by_cases g1 : m.fr = e.p
  · by_cases g2 : m.to = e.n
    · by_cases g3 : m.k = 1 ∨ m.k = 2
      · by_cases g4 : m.ep < e.ep
        · have HE := Lib.hid (show wrnE e m = 14 by unfold wrnE; rw [if_neg (by omega), if_pos g4])
          have t1 := eq_t g1
          have t1n := ne_f g1
          have t2 := eq_t g2
          have t2n := ne_f g2
          rcases g3 with g3 | g3
          · have t3 := eq_t g3
            have t3n := ne_f g3
            have t4 := eq_f (show ¬ m.k = 2 by omega)
            have t4n := ne_t (show ¬ m.k = 2 by omega)
            clear g1 g2 g3
            go_enter Try.func38, Try.ntmps38
            go_wp2_with fail
            go_quiet (fail)
            go_wp2_with fail
            go_quiet (fail)
            go_wp2
            go_ret
            rw [HE.out]
            exact ⟨rfl, below_drewN (below_drewN (hb1) _) _⟩
          · have t3 := eq_f (show ¬ m.k = 1 by omega)
            have t3n := ne_t (show ¬ m.k = 1 by omega)
            have t4 := eq_t g3
            have t4n := ne_f g3
            clear g1 g2 g3
            go_enter Try.func38, Try.ntmps38
            go_wp2_with fail
            go_quiet (fail)
            go_wp2_with fail
            go_quiet (fail)
            go_wp2
            go_ret
            rw [HE.out]
            exact ⟨rfl, below_drewN (below_drewN (hb1) _) _⟩
        · by_cases g5 : e.ep < m.ep
          · have HE := Lib.hid (show wrnE e m = 11 by unfold wrnE; rw [if_neg (by omega), if_neg g4, if_pos g5])
            have t1 := eq_t g1
            have t1n := ne_f g1
            have t2 := eq_t g2
            have t2n := ne_f g2
            rcases g3 with g3 | g3
            · have t3 := eq_t g3
              have t3n := ne_f g3
              have t4 := eq_f (show ¬ m.k = 2 by omega)
              have t4n := ne_t (show ¬ m.k = 2 by omega)
              clear g1 g2 g3
              go_enter Try.func38, Try.ntmps38
              go_wp2_with fail
              go_quiet (fail)
              go_wp2_with fail
              go_quiet (fail)
              go_wp2_with fail
              go_quiet (fail)
              go_wp2
              go_ret
              rw [HE.out]
              exact ⟨rfl, below_drewN (below_drewN (below_drewN (hb1) _) _) _⟩
            · have t3 := eq_f (show ¬ m.k = 1 by omega)
              have t3n := ne_t (show ¬ m.k = 1 by omega)
              have t4 := eq_t g3
              have t4n := ne_f g3
              clear g1 g2 g3
              go_enter Try.func38, Try.ntmps38
              go_wp2_with fail
              go_quiet (fail)
              go_wp2_with fail
              go_quiet (fail)
              go_wp2_with fail
              go_quiet (fail)
              go_wp2
              go_ret
              rw [HE.out]
              exact ⟨rfl, below_drewN (below_drewN (below_drewN (hb1) _) _) _⟩
          · by_cases g6 : m.ac < 0
            · have HE := Lib.hid (show wrnE e m = 5 by unfold wrnE; rw [if_neg (by omega), if_neg g4, if_neg g5, if_pos (.inl g6)])
              have t1 := eq_t g1
              have t1n := ne_f g1
              have t2 := eq_t g2
              have t2n := ne_f g2
              rcases g3 with g3 | g3
              · have t3 := eq_t g3
                have t3n := ne_f g3
                have t4 := eq_f (show ¬ m.k = 2 by omega)
                have t4n := ne_t (show ¬ m.k = 2 by omega)
                clear g1 g2 g3
                go_enter Try.func38, Try.ntmps38
                go_wp2_with fail
                go_quiet (fail)
                go_wp2_with fail
                go_quiet (fail)
                go_wp2_with fail
                go_quiet (fail)
                go_wp2_with fail
                go_quiet (fail)
                go_wp2
                go_ret
                rw [HE.out]
                exact ⟨rfl, below_drewN (below_drewN (below_drewN (below_drewN (hb1) _) _) _) _⟩
              · have t3 := eq_f (show ¬ m.k = 1 by omega)
                have t3n := ne_t (show ¬ m.k = 1 by omega)
                have t4 := eq_t g3
                have t4n := ne_f g3
                clear g1 g2 g3
                go_enter Try.func38, Try.ntmps38
                go_wp2_with fail
                go_quiet (fail)
                go_wp2_with fail
                go_quiet (fail)
                go_wp2_with fail
                go_quiet (fail)
                go_wp2_with fail
                go_quiet (fail)
                go_wp2
                go_ret
                rw [HE.out]
                exact ⟨rfl, below_drewN (below_drewN (below_drewN (below_drewN (hb1) _) _) _) _⟩
            · by_cases g7 : (q : Int) < m.ac
              · have HE := Lib.hid (show wrnE e m = 5 by unfold wrnE; rw [if_neg (by omega), if_neg g4, if_neg g5, if_pos (.inr (.inl (by have := HQ.out; omega)))])
                have t1 := eq_t g1
                have t1n := ne_f g1
                have t2 := eq_t g2
                have t2n := ne_f g2
                rcases g3 with g3 | g3
                · have t3 := eq_t g3
                  have t3n := ne_f g3
                  have t4 := eq_f (show ¬ m.k = 2 by omega)
                  have t4n := ne_t (show ¬ m.k = 2 by omega)
                  clear g1 g2 g3
                  have g6d : decide (m.ac < 0) = false := by simpa using g6
                  have g7d : decide ((q : Int) < m.ac) = true := by simpa using g7
                  go_enter Try.func38, Try.ntmps38
                  go_wp2_with fail
                  go_quiet (fail)
                  go_wp2_with fail
                  go_quiet (fail)
                  go_wp2_with fail
                  go_quiet (fail)
                  go_wp2_with fail
                  go_quiet (fail)
                  go_wp2
                  go_ret
                  rw [HE.out]
                  exact ⟨rfl, below_drewN (below_drewN (below_drewN (below_drewN (hb1) _) _) _) _⟩
                · have t3 := eq_f (show ¬ m.k = 1 by omega)
                  have t3n := ne_t (show ¬ m.k = 1 by omega)
                  have t4 := eq_t g3
                  have t4n := ne_f g3
                  clear g1 g2 g3
                  have g6d : decide (m.ac < 0) = false := by simpa using g6
                  have g7d : decide ((q : Int) < m.ac) = true := by simpa using g7
                  go_enter Try.func38, Try.ntmps38
                  go_wp2_with fail
                  go_quiet (fail)
                  go_wp2_with fail
                  go_quiet (fail)
                  go_wp2_with fail
                  go_quiet (fail)
                  go_wp2_with fail
                  go_quiet (fail)
                  go_wp2
                  go_ret
                  rw [HE.out]
                  exact ⟨rfl, below_drewN (below_drewN (below_drewN (below_drewN (hb1) _) _) _) _⟩
              · by_cases g8 : (1200 : Int) < (n : Int)
                · have HE := Lib.hid (show wrnE e m = 5 by unfold wrnE; rw [if_neg (by omega), if_neg g4, if_neg g5, if_pos (.inr (.inr (by have := HN.out; omega)))])
                  have t1 := eq_t g1
                  have t1n := ne_f g1
                  have t2 := eq_t g2
                  have t2n := ne_f g2
                  rcases g3 with g3 | g3
                  · have t3 := eq_t g3
                    have t3n := ne_f g3
                    have t4 := eq_f (show ¬ m.k = 2 by omega)
                    have t4n := ne_t (show ¬ m.k = 2 by omega)
                    clear g1 g2 g3
                    have g6d : decide (m.ac < 0) = false := by simpa using g6
                    have g7d : decide ((q : Int) < m.ac) = false := by simpa using g7
                    have g8d : decide ((1200 : Int) < (n : Int)) = true := by simpa using g8
                    go_enter Try.func38, Try.ntmps38
                    go_wp2_with fail
                    go_quiet (fail)
                    go_wp2_with fail
                    go_quiet (fail)
                    go_wp2_with fail
                    go_quiet (fail)
                    go_wp2_with fail
                    go_quiet (fail)
                    go_wp2
                    go_ret
                    rw [HE.out]
                    exact ⟨rfl, below_drewN (below_drewN (below_drewN (below_drewN (hb1) _) _) _) _⟩
                  · have t3 := eq_f (show ¬ m.k = 1 by omega)
                    have t3n := ne_t (show ¬ m.k = 1 by omega)
                    have t4 := eq_t g3
                    have t4n := ne_f g3
                    clear g1 g2 g3
                    have g6d : decide (m.ac < 0) = false := by simpa using g6
                    have g7d : decide ((q : Int) < m.ac) = false := by simpa using g7
                    have g8d : decide ((1200 : Int) < (n : Int)) = true := by simpa using g8
                    go_enter Try.func38, Try.ntmps38
                    go_wp2_with fail
                    go_quiet (fail)
                    go_wp2_with fail
                    go_quiet (fail)
                    go_wp2_with fail
                    go_quiet (fail)
                    go_wp2_with fail
                    go_quiet (fail)
                    go_wp2
                    go_ret
                    rw [HE.out]
                    exact ⟨rfl, below_drewN (below_drewN (below_drewN (below_drewN (hb1) _) _) _) _⟩
                · have t1 := eq_t g1
                  have t1n := ne_f g1
                  have t2 := eq_t g2
                  have t2n := ne_f g2
                  rcases g3 with g3 | g3
                  · have t3 := eq_t g3
                    have t3n := ne_f g3
                    have t4 := eq_f (show ¬ m.k = 2 by omega)
                    have t4n := ne_t (show ¬ m.k = 2 by omega)
                    by_cases g9 : m.sq < 1
                    · have HE := Lib.hid (show wrnE e m = 5 by unfold wrnE; rw [if_neg (by omega), if_neg g4, if_neg g5, if_neg (by have := HQ.out; have := HN.out; omega), if_pos (.inl ⟨g3, g9⟩)])
                      clear g1 g2 g3
                      have g6d : decide (m.ac < 0) = false := by simpa using g6
                      have g7d : decide ((q : Int) < m.ac) = false := by simpa using g7
                      have g8d : decide ((1200 : Int) < (n : Int)) = false := by simpa using g8
                      go_enter Try.func38, Try.ntmps38
                      go_wp2_with fail
                      go_quiet (fail)
                      go_wp2_with fail
                      go_quiet (fail)
                      go_wp2_with fail
                      go_quiet (fail)
                      go_wp2_with fail
                      go_quiet (fail)
                      go_wp2
                      go_ret
                      rw [HE.out]
                      exact ⟨rfl, below_drewN hb1 _⟩
                    · have HE := Lib.hid (show wrnE e m = 0 by unfold wrnE; rw [if_neg (by omega), if_neg g4, if_neg g5, if_neg (by have := HQ.out; have := HN.out; omega), if_neg (by omega)])
                      clear g1 g2 g3
                      have g6d : decide (m.ac < 0) = false := by simpa using g6
                      have g7d : decide ((q : Int) < m.ac) = false := by simpa using g7
                      have g8d : decide ((1200 : Int) < (n : Int)) = false := by simpa using g8
                      go_enter Try.func38, Try.ntmps38
                      go_wp2_with fail
                      go_quiet (fail)
                      go_wp2_with fail
                      go_quiet (fail)
                      go_wp2_with fail
                      go_quiet (fail)
                      go_wp2_with fail
                      go_quiet (fail)
                      go_wp2
                      go_ret
                      rw [HE.out]
                      exact ⟨rfl, below_drewN hb1 _⟩
                  · have t3 := eq_f (show ¬ m.k = 1 by omega)
                    have t3n := ne_t (show ¬ m.k = 1 by omega)
                    have t4 := eq_t g3
                    have t4n := ne_f g3
                    by_cases g9 : m.sq = 0
                    · by_cases g10 : 0 < n
                      · have HE := Lib.hid (show wrnE e m = 5 by unfold wrnE; rw [if_neg (by omega), if_neg g4, if_neg g5, if_neg (by have := HQ.out; have := HN.out; omega), if_pos (.inr ⟨g3, .inr (by have := HN.out; omega)⟩)])
                        have t5 := eq_t g9
                        have t5n := ne_f g9
                        have ga : (0 : Int) < (n : Int) := by omega
                        clear g1 g2 g3 g9
                        have g6d : decide (m.ac < 0) = false := by simpa using g6
                        have g7d : decide ((q : Int) < m.ac) = false := by simpa using g7
                        have g8d : decide ((1200 : Int) < (n : Int)) = false := by simpa using g8
                        go_enter Try.func38, Try.ntmps38
                        go_wp2_with fail
                        go_quiet (fail)
                        go_wp2_with fail
                        go_quiet (fail)
                        go_wp2_with fail
                        go_quiet (fail)
                        go_wp2_with fail
                        go_quiet (fail)
                        go_wp2
                        go_ret
                        rw [HE.out]
                        exact ⟨rfl, below_drewN hb1 _⟩
                      · have HE := Lib.hid (show wrnE e m = 0 by unfold wrnE; rw [if_neg (by omega), if_neg g4, if_neg g5, if_neg (by have := HQ.out; have := HN.out; omega), if_neg (by have := HN.out; omega)])
                        have t5 := eq_t g9
                        have t5n := ne_f g9
                        have ga : ¬ (0 : Int) < (n : Int) := by omega
                        clear g1 g2 g3 g9
                        have g6d : decide (m.ac < 0) = false := by simpa using g6
                        have g7d : decide ((q : Int) < m.ac) = false := by simpa using g7
                        have g8d : decide ((1200 : Int) < (n : Int)) = false := by simpa using g8
                        go_enter Try.func38, Try.ntmps38
                        go_wp2_with fail
                        go_quiet (fail)
                        go_wp2_with fail
                        go_quiet (fail)
                        go_wp2_with fail
                        go_quiet (fail)
                        go_wp2_with fail
                        go_quiet (fail)
                        go_wp2
                        go_ret
                        rw [HE.out]
                        exact ⟨rfl, below_drewN hb1 _⟩
                    · have HE := Lib.hid (show wrnE e m = 5 by unfold wrnE; rw [if_neg (by omega), if_neg g4, if_neg g5, if_neg (by have := HQ.out; have := HN.out; omega), if_pos (.inr ⟨g3, .inl g9⟩)])
                      have t5 := eq_f g9
                      have t5n := ne_t g9
                      clear g1 g2 g3 g9
                      have g6d : decide (m.ac < 0) = false := by simpa using g6
                      have g7d : decide ((q : Int) < m.ac) = false := by simpa using g7
                      have g8d : decide ((1200 : Int) < (n : Int)) = false := by simpa using g8
                      go_enter Try.func38, Try.ntmps38
                      go_wp2_with fail
                      go_quiet (fail)
                      go_wp2_with fail
                      go_quiet (fail)
                      go_wp2_with fail
                      go_quiet (fail)
                      go_wp2_with fail
                      go_quiet (fail)
                      go_wp2
                      go_ret
                      rw [HE.out]
                      exact ⟨rfl, below_drewN hb1 _⟩
      · have HE := Lib.hid (show wrnE e m = 1 by unfold wrnE; rw [if_pos (by omega)])
        have t1 := eq_t g1
        have t1n := ne_f g1
        have t2 := eq_t g2
        have t2n := ne_f g2
        have t3 := eq_f (show ¬ m.k = 1 by omega)
        have t3n := ne_t (show ¬ m.k = 1 by omega)
        have t4 := eq_f (show ¬ m.k = 2 by omega)
        have t4n := ne_t (show ¬ m.k = 2 by omega)
        clear g1 g2 g3
        go_enter Try.func38, Try.ntmps38
        go_wp2_with fail
        go_quiet (fail)
        go_wp2
        go_ret
        rw [HE.out]
        exact ⟨rfl, below_drewN (hb1) _⟩
    · have HE := Lib.hid (show wrnE e m = 1 by unfold wrnE; rw [if_pos (.inr (.inl g2))])
      have t1 := eq_t g1
      have t1n := ne_f g1
      have t2 := eq_f g2
      have t2n := ne_t g2
      clear g1 g2
      go_enter Try.func38, Try.ntmps38
      go_wp2_with fail
      go_quiet (fail)
      go_wp2
      go_ret
      rw [HE.out]
      exact ⟨rfl, below_drewN (hb1) _⟩
  · have HE := Lib.hid (show wrnE e m = 1 by unfold wrnE; rw [if_pos (.inl g1)])
    have t1 := eq_f g1
    have t1n := ne_t g1
    clear g1
    go_enter Try.func38, Try.ntmps38
    go_wp2_with fail
    go_quiet (fail)
    go_wp2
    go_ret
    rw [HE.out]
    exact ⟨rfl, below_drewN (hb1) _⟩
end
end Ses
end Go.Proofs.Ytlmaelbalmjlbaa
