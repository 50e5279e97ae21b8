/- Layer 16: 10 fair rounds bring over all loads that were sent, and nothing is open or owed (SessAll). No condition. -/
import Derived.Test.YtlmaelbalmjlbaaSesZ
import Derived.Test.YtlmaelbalmjlbaaSesAr
import Derived.BigQuiet
set_option linter.all false
namespace Go.Proofs.Ytlmaelbalmjlbaa
open Go.ChangeShapes Go.WideShapes Go.ChangeAt Go.RowKit
namespace Ses
open Net
/-- How many datagrams lie there. -/
def bagN (wb j : Nat) (w : World) : Nat := match w.cell? ⟨wb, 2 + j, none⟩ with
  | some (.slice _ n _) => n
  | _ => 0
theorem WmX.bagcell {w : World} {B wb : Nat} {e : Bool → Nat} {bv sv : Bool → Value} {W : Wd} (h : WmX w B wb e bv sv W) (s : Bool) : ∃ A c, w.cell? ⟨wb, 2 + so s, none⟩ = some (.slice A (W.b s).length c) := by
  obtain ⟨A, n, c, L, e1, h1, h2⟩ := h.bags s
  refine ⟨A, c, ?_⟩
  rw [h.cB s, e1, h2, List.length_map, h1.len]
theorem WmX.bagN {w : World} {B wb : Nat} {e : Bool → Nat} {bv sv : Bool → Value} {W : Wd} (h : WmX w B wb e bv sv W) (s : Bool) : bagN wb (so s) w = (W.b s).length := by
  obtain ⟨A, c, hc⟩ := h.bagcell s
  unfold Ses.bagN
  rw [hc]
theorem del_len (W : Wd) (s : Bool) : ((wDel W s 0).b s).length = (W.b s).length - 1 := by rw [del_bag, tak_zero, List.length_tail]
theorem drain_step {W : Wd} {s : Bool} (h : 0 < (W.b s).length) : drain (wDel W s 0) s = drain W s := by
  unfold drain
  rw [del_len]
  obtain ⟨n, hn⟩ : ∃ n, (W.b s).length = n + 1 := ⟨(W.b s).length - 1, by omega⟩
  rw [hn]
  rfl
theorem drain_nil {W : Wd} {s : Bool} (h : (W.b s).length = 0) : drain W s = W := by unfold drain; rw [h]; rfl
theorem quiet_back {f : FuncId} {args : Array Value} {w : World} {n : Nat} {v : Value} (h : Calls Try.prog f args (w.drewN n) fun e w' => e = .returned v ∧ w.drewN n = w') : Calls Try.prog f args (w.drewN n) fun e w'' => e = .returned v ∧ ∃ m, w'' = w.drewN m :=
  h.mono fun _ _ ⟨he, hm⟩ => ⟨he, n, hm.symm⟩
theorem WmX.drewN {w : World} {B wb : Nat} {e : Bool → Nat} {bv sv : Bool → Value} {W : Wd} (h : WmX w B wb e bv sv W) (k : Nat) : WmX (w.drewN k) B wb e bv sv W := h.keep (below_drewN (Below.refl _ _) k)
section
variable (w : World)
set_option maxRecDepth 100000 in
set_option maxHeartbeats 8000000 in
theorem all_walk (A : Option Addr) (n c : Nat) (l : List Dod) (h : Dos w A n l) (hnc : n ≤ c) (hc : c * 64 ≤ 140737488351232) :
    Calls Try.prog 5 #[.slice A n c] w fun r w' => r = .returned (.bool true) ∧ Below w.heap.size w w' := by
  obtain ⟨q, hq⟩ : ∃ q, min n 2000 = q := ⟨_, rfl⟩
  have hqi : min (n : Int) 2000 = (q : Int) := by omega
  have hqn : q ≤ n := by omega
  have hq20 : q ≤ 2000 := by omega
  have hqni : (q : Int) ≤ (n : Int) := by omega
  have hqci : (q : Int) ≤ (c : Int) := by omega
  have hq0 : (0 : Int) ≤ (q : Int) := by omega
  have HD := Lib.hid h
  clear hq h
  go_enter Try.func5, Try.ntmps5
  go_wp2_with fail
  refine (wbegin_ w).mono ?_
  rintro r w1 ⟨wb, ⟨rfl, hwb⟩, hG1, hB1⟩
  obtain ⟨e, h1⟩ := hG1.two hwb
  have hs1 := hB1.size
  go_wp2_with fail
  refine (alive_ w1).mono ?_
  rintro r w2 ⟨rfl, hb2⟩
  have h2 := h1.keep hb2
  have hB2 : Below w.heap.size w w2 := hB1.trans (hb2.mono hs1)
  clear hG1 h1 hB1 hb2
  go_wp2_with fail
  go_loopw [26] (fun iv wr => ∃ (i : Nat) (W : Wd) (bv sv : Bool → Value), i ≤ q ∧ iv = .int .i64 (i : Int) ∧ WmX wr w.heap.size wb e bv sv W ∧ Hid (Inv W i) ∧ Below w.heap.size w wr) (fun iv _ => q - (intOf iv).toNat)
  case atStart => exact ⟨0, _, _, _, Nat.zero_le _, rfl, h2, Lib.hid inv0, hB2⟩
  case round =>
    obtain ⟨i, W, bv, sv, hi, rfl, hW, hI, hB⟩ := hrel
    have hi0 : (0 : Int) ≤ (i : Int) := by omega
    by_cases hlt : i < q
    · have hil : (i : Int) < (q : Int) := by omega
      obtain ⟨ba, oa, a, Y, y, z, rfl, hl, hA, hcs⟩ := HD.out.at_ i (by omega)
      have d0 := (hB.cell (cell_lt (hcs 0 _ rfl))).trans (hcs 0 _ rfl)
      have d1 := (hB.cell (cell_lt (hcs 1 _ rfl))).trans (hcs 1 _ rfl)
      have d2 := (hB.cell (cell_lt (hcs 2 _ rfl))).trans (hcs 2 _ rfl)
      have d3 := (hB.cell (cell_lt (hcs 3 _ rfl))).trans (hcs 3 _ rfl)
      have d4 := (hB.cell (cell_lt (hcs 4 _ rfl))).trans (hcs 4 _ rfl)
      have d5 := (hB.cell (cell_lt (hcs 5 _ rfl))).trans (hcs 5 _ rfl)
      simp only [Nat.add_zero] at d0
      have HYB := Lib.hid (rd_lt2 hA.d.bs)
      have hbd : Blk (wr.alloc (.cells (da a (.slice Y y z)) 58)) wr.heap.size 58 (da a (.slice Y y z)) := Blk.new wr _ _ rfl
      have hba : Below wr.heap.size wr (wr.alloc (.cells (da a (.slice Y y z)) 58)) := (Below.refl _ _).alloc (Nat.le_refl _) _
      have hsr := hB.size
      have hW4 := hW.keep hba
      have hB4 := hB.trans (hba.mono hsr)
      have hA4 := hA.below hB4
      have hDo := wdo_ (wr.alloc (.cells (da a (.slice Y y z)) 58)) w.heap.size wb e bv sv W hW4 hI.out (by omega) a Y y z hA4 HYB.out
      clear hba hA hcs hl hA4
      go_wp2_with fail
      obtain ⟨w4, hw4⟩ : ∃ w4, wr.alloc (.cells (da a (.slice Y y z)) 58) = w4 := ⟨_, rfl⟩
      rw [hw4] at hbd hW4 hB4 hDo ⊢
      clear d0 d1 d2 d3 d4 d5 hbd hW4 hw4
      refine hDo.mono ?_
      rintro r w5 ⟨bv5, sv5, rfl, h5, hb5⟩
      have hI5 := Lib.hid (inv_do hI.out (by omega) (sideB a.side) (doA a))
      have hB5 := hB4.trans hb5
      clear hDo hB4 hb5 hW hB
      go_wp2
      exact ⟨⟨i + 1, _, _, _, by omega, by go_num, h5, hI5, hB5⟩, by simp [intOf]; omega⟩
    · have hin : ¬ (i : Int) < (q : Int) := by omega
      have hiq : i = q := by omega
      have hIq : Hid (Inv W q) := hiq ▸ hI
      clear hiq hI
      go_wp2_with fail
      go_loopw [34] (fun rv wx => ∃ (r : Nat) (bx sx : Bool → Value) (X : Wd), r ≤ 10 ∧ rv = .int .i64 (r : Int) ∧ WmX wx w.heap.size wb e bx sx X ∧ Hid (Inv X q) ∧ Hid (Qf (2 * r) X) ∧ Below w.heap.size w wx) (fun rv _ => 10 - (intOf rv).toNat)
      case atStart => exact ⟨0, _, _, _, by omega, rfl, hW, hIq, Lib.hid (by simp [Qf]), hB⟩
      case round =>
        obtain ⟨w2a, rfl⟩ : ∃ x : World, x = wr := ⟨_, rfl⟩
        obtain ⟨r, bv2, sv2, V2, hr, rfl, hW2, hI2, hQ2, hB2⟩ := hrel
        have hr0 : (0 : Int) ≤ (r : Int) := by omega
        by_cases hr10 : r < 10
        · have hri : (r : Int) < 10 := by omega
          go_wp2_with fail
          go_loopw [36] (fun jv wx => ∃ (j : Nat) (bx sx : Bool → Value) (X : Wd), j ≤ 2 ∧ jv = .int .i64 (j : Int) ∧ WmX wx w.heap.size wb e bx sx X ∧ Hid (Inv X q) ∧ Hid (Qf (2 * r + j) X) ∧ Below w.heap.size w wx) (fun jv _ => 2 - (intOf jv).toNat)
          case atStart => exact ⟨0, _, _, _, by omega, rfl, hW2, hI2, hQ2, hB2⟩
          case round =>
            obtain ⟨w3a, rfl⟩ : ∃ x : World, x = wr := ⟨_, rfl⟩
            obtain ⟨j, bv3, sv3, V3, hj, rfl, hW3, hI3, hQ3, hB3⟩ := hrel
            match j, hj with
            | 0, _ =>
              rw [show ((0 : Nat) : Int) = (0 : Int) from rfl]
              go_wp2_with fail
              go_loopw [48] (fun _ wx => ∃ (bx sx : Bool → Value) (X : Wd), WmX wx w.heap.size wb e bx sx X ∧ Hid (Inv X q) ∧ Hid (drain X false = drain V3 false) ∧ Below w.heap.size w wx) (fun _ wx => bagN wb 0 wx)
              case atStart => exact ⟨_, _, _, hW3, hI3, Lib.hid rfl, hB3⟩
              case round =>
                obtain ⟨w4a, rfl⟩ : ∃ x : World, x = wr := ⟨_, rfl⟩
                obtain ⟨bv4, sv4, V4, hW4, hI4, hD4, hB4⟩ := hrel
                obtain ⟨Ab4, cb4, hc4⟩ := hW4.bagcell false
                have hN4 := hW4.bagN false
                rw [show so false = 0 from rfl] at hc4 hN4
                simp only [Nat.add_zero, Nat.reduceAdd] at hc4
                by_cases hz4 : (V4.b false).length = 0
                · have he4 := Lib.hid (show V4 = drain V3 false from (drain_nil hz4).symm.trans hD4.out)
                  rw [hz4] at hc4
                  clear hz4 hN4
                  have hSt := wstep_ w4a w.heap.size wb e bv4 sv4 V4 hW4 hI4.out (by omega) false
                  rw [show ((so false : Nat) : Int) = 0 from rfl] at hSt
                  go_wp2_with fail
                  refine hSt.mono ?_
                  rintro r9 wz ⟨bz, sz, rfl, hz, hBz⟩
                  have hIz := Lib.hid (inv_step hI4.out (by omega) false)
                  have hBzz := hB4.trans hBz
                  clear hSt hc4
                  go_wp2_with fail
                  go_loopw [63] (fun _ wx => ∃ (bx sx : Bool → Value) (X : Wd), WmX wx w.heap.size wb e bx sx X ∧ Hid (Inv X q) ∧ Hid (drain X false = drain (wStep V4 false) false) ∧ Below w.heap.size w wx) (fun _ wx => bagN wb 0 wx)
                  case atStart => exact ⟨_, _, _, hz, hIz, Lib.hid rfl, hBzz⟩
                  case round =>
                    obtain ⟨w5a, rfl⟩ : ∃ x : World, x = wr := ⟨_, rfl⟩
                    obtain ⟨bv5, sv5, V5, hW5, hI5, hD5, hB5⟩ := hrel
                    obtain ⟨Ab5, cb5, hc5⟩ := hW5.bagcell false
                    have hN5 := hW5.bagN false
                    rw [show so false = 0 from rfl] at hc5 hN5
                    simp only [Nat.add_zero, Nat.reduceAdd] at hc5
                    by_cases hz5 : (V5.b false).length = 0
                    · have he5 := Lib.hid (show V5 = drain (wStep V4 false) false from (drain_nil hz5).symm.trans hD5.out)
                      rw [hz5] at hc5
                      clear hz5 hN5
                      have hQ5 := Lib.hid (qf_step hI3.out (by omega) hQ3.out)
                      have hdec : decide ((2 * r + 0) % 2 = 1) = false := by rw [decide_eq_false_iff_not]; omega
                      have hfe : V5 = wFair V3 false := by rw [he5.out]; show drain (wStep V4 false) false = drain (wStep (drain V3 false) false) false; rw [← he4.out]
                      have hQ6 : Hid (Qf (2 * r + 1) V5) := by
                        have h := hQ5.out
                        rw [hdec, ← hfe] at h
                        exact h
                      clear hdec hfe hQ5
                      go_wp2
                      exact ⟨⟨1, _, _, _, by omega, rfl, hW5, hI5, hQ6, hB5⟩, by simp [intOf]⟩
                    · have hp5 : (0 : Int) < (((V5.b false).length : Nat) : Int) := by omega
                      have hDl := wdel_ w5a w.heap.size wb e bv5 sv5 V5 hW5 hI5.out (by omega) false 0
                      rw [show ((so false : Nat) : Int) = 0 from rfl] at hDl
                      obtain ⟨ln5, hln5⟩ : ∃ n, (V5.b false).length = n := ⟨_, rfl⟩
                      have Hln5 := Lib.hid hln5
                      rw [hln5] at hc5 hp5 hN5
                      have HN5 := Lib.hid hN5
                      clear hln5 hz5 hN5
                      go_wp2_with fail
                      refine hDl.mono ?_
                      rintro r wy ⟨by1, sy1, rfl, hy, hBy⟩
                      have hNy := Lib.hid (hy.bagN false)
                      have hIy := Lib.hid (inv_del hI5.out false 0)
                      clear hDl hc5
                      go_wp2
                      refine ⟨⟨_, _, _, hy, hIy, Lib.hid ((drain_step (by rw [Hln5.out]; omega)).trans hD5.out), hB5.trans hBy⟩, ?_⟩
                      have h1 := hNy.out
                      have h2 := HN5.out
                      rw [show so false = 0 from rfl] at h1
                      rw [h1, h2, del_len, Hln5.out]
                      omega
                · have hp4 : (0 : Int) < (((V4.b false).length : Nat) : Int) := by omega
                  have hDl := wdel_ w4a w.heap.size wb e bv4 sv4 V4 hW4 hI4.out (by omega) false 0
                  rw [show ((so false : Nat) : Int) = 0 from rfl] at hDl
                  obtain ⟨ln4, hln4⟩ : ∃ n, (V4.b false).length = n := ⟨_, rfl⟩
                  have Hln4 := Lib.hid hln4
                  rw [hln4] at hc4 hp4 hN4
                  have HN4 := Lib.hid hN4
                  clear hln4 hz4 hN4
                  go_wp2_with fail
                  refine hDl.mono ?_
                  rintro r wy ⟨by1, sy1, rfl, hy, hBy⟩
                  have hNy := Lib.hid (hy.bagN false)
                  have hIy := Lib.hid (inv_del hI4.out false 0)
                  clear hDl hc4
                  go_wp2
                  refine ⟨⟨_, _, _, hy, hIy, Lib.hid ((drain_step (by rw [Hln4.out]; omega)).trans hD4.out), hB4.trans hBy⟩, ?_⟩
                  have h1 := hNy.out
                  have h2 := HN4.out
                  rw [show so false = 0 from rfl] at h1
                  rw [h1, h2, del_len, Hln4.out]
                  omega
            | 1, _ =>
              rw [show ((1 : Nat) : Int) = (1 : Int) from rfl]
              go_wp2_with fail
              go_loopw [48] (fun _ wx => ∃ (bx sx : Bool → Value) (X : Wd), WmX wx w.heap.size wb e bx sx X ∧ Hid (Inv X q) ∧ Hid (drain X true = drain V3 true) ∧ Below w.heap.size w wx) (fun _ wx => bagN wb 1 wx)
              case atStart => exact ⟨_, _, _, hW3, hI3, Lib.hid rfl, hB3⟩
              case round =>
                obtain ⟨w4a, rfl⟩ : ∃ x : World, x = wr := ⟨_, rfl⟩
                obtain ⟨bv4, sv4, V4, hW4, hI4, hD4, hB4⟩ := hrel
                obtain ⟨Ab4, cb4, hc4⟩ := hW4.bagcell true
                have hN4 := hW4.bagN true
                rw [show so true = 1 from rfl] at hc4 hN4
                simp only [Nat.add_zero, Nat.reduceAdd] at hc4
                by_cases hz4 : (V4.b true).length = 0
                · have he4 := Lib.hid (show V4 = drain V3 true from (drain_nil hz4).symm.trans hD4.out)
                  rw [hz4] at hc4
                  clear hz4 hN4
                  have hSt := wstep_ w4a w.heap.size wb e bv4 sv4 V4 hW4 hI4.out (by omega) true
                  rw [show ((so true : Nat) : Int) = 1 from rfl] at hSt
                  go_wp2_with fail
                  refine hSt.mono ?_
                  rintro r9 wz ⟨bz, sz, rfl, hz, hBz⟩
                  have hIz := Lib.hid (inv_step hI4.out (by omega) true)
                  have hBzz := hB4.trans hBz
                  clear hSt hc4
                  go_wp2_with fail
                  go_loopw [63] (fun _ wx => ∃ (bx sx : Bool → Value) (X : Wd), WmX wx w.heap.size wb e bx sx X ∧ Hid (Inv X q) ∧ Hid (drain X true = drain (wStep V4 true) true) ∧ Below w.heap.size w wx) (fun _ wx => bagN wb 1 wx)
                  case atStart => exact ⟨_, _, _, hz, hIz, Lib.hid rfl, hBzz⟩
                  case round =>
                    obtain ⟨w5a, rfl⟩ : ∃ x : World, x = wr := ⟨_, rfl⟩
                    obtain ⟨bv5, sv5, V5, hW5, hI5, hD5, hB5⟩ := hrel
                    obtain ⟨Ab5, cb5, hc5⟩ := hW5.bagcell true
                    have hN5 := hW5.bagN true
                    rw [show so true = 1 from rfl] at hc5 hN5
                    simp only [Nat.add_zero, Nat.reduceAdd] at hc5
                    by_cases hz5 : (V5.b true).length = 0
                    · have he5 := Lib.hid (show V5 = drain (wStep V4 true) true from (drain_nil hz5).symm.trans hD5.out)
                      rw [hz5] at hc5
                      clear hz5 hN5
                      have hQ5 := Lib.hid (qf_step hI3.out (by omega) hQ3.out)
                      have hdec : decide ((2 * r + 1) % 2 = 1) = true := by rw [decide_eq_true_eq]; omega
                      have hfe : V5 = wFair V3 true := by rw [he5.out]; show drain (wStep V4 true) true = drain (wStep (drain V3 true) true) true; rw [← he4.out]
                      have hQ6 : Hid (Qf (2 * r + 2) V5) := by
                        have h := hQ5.out
                        rw [hdec, ← hfe] at h
                        exact h
                      clear hdec hfe hQ5
                      go_wp2
                      exact ⟨⟨2, _, _, _, by omega, rfl, hW5, hI5, hQ6, hB5⟩, by simp [intOf]⟩
                    · have hp5 : (0 : Int) < (((V5.b true).length : Nat) : Int) := by omega
                      have hDl := wdel_ w5a w.heap.size wb e bv5 sv5 V5 hW5 hI5.out (by omega) true 0
                      rw [show ((so true : Nat) : Int) = 1 from rfl] at hDl
                      obtain ⟨ln5, hln5⟩ : ∃ n, (V5.b true).length = n := ⟨_, rfl⟩
                      have Hln5 := Lib.hid hln5
                      rw [hln5] at hc5 hp5 hN5
                      have HN5 := Lib.hid hN5
                      clear hln5 hz5 hN5
                      go_wp2_with fail
                      refine hDl.mono ?_
                      rintro r wy ⟨by1, sy1, rfl, hy, hBy⟩
                      have hNy := Lib.hid (hy.bagN true)
                      have hIy := Lib.hid (inv_del hI5.out true 0)
                      clear hDl hc5
                      go_wp2
                      refine ⟨⟨_, _, _, hy, hIy, Lib.hid ((drain_step (by rw [Hln5.out]; omega)).trans hD5.out), hB5.trans hBy⟩, ?_⟩
                      have h1 := hNy.out
                      have h2 := HN5.out
                      rw [show so true = 1 from rfl] at h1
                      rw [h1, h2, del_len, Hln5.out]
                      omega
                · have hp4 : (0 : Int) < (((V4.b true).length : Nat) : Int) := by omega
                  have hDl := wdel_ w4a w.heap.size wb e bv4 sv4 V4 hW4 hI4.out (by omega) true 0
                  rw [show ((so true : Nat) : Int) = 1 from rfl] at hDl
                  obtain ⟨ln4, hln4⟩ : ∃ n, (V4.b true).length = n := ⟨_, rfl⟩
                  have Hln4 := Lib.hid hln4
                  rw [hln4] at hc4 hp4 hN4
                  have HN4 := Lib.hid hN4
                  clear hln4 hz4 hN4
                  go_wp2_with fail
                  refine hDl.mono ?_
                  rintro r wy ⟨by1, sy1, rfl, hy, hBy⟩
                  have hNy := Lib.hid (hy.bagN true)
                  have hIy := Lib.hid (inv_del hI4.out true 0)
                  clear hDl hc4
                  go_wp2
                  refine ⟨⟨_, _, _, hy, hIy, Lib.hid ((drain_step (by rw [Hln4.out]; omega)).trans hD4.out), hB4.trans hBy⟩, ?_⟩
                  have h1 := hNy.out
                  have h2 := HN4.out
                  rw [show so true = 1 from rfl] at h1
                  rw [h1, h2, del_len, Hln4.out]
                  omega
            | 2, _ =>
              go_wp2
              exact ⟨⟨r + 1, _, _, _, by omega, by go_num, hW3, hI3, hQ3, hB3⟩, by simp [intOf]; omega⟩
        · have hri : ¬ (r : Int) < 10 := by omega
          have hr1 : r = 10 := by omega
          rw [hr1] at hQ2
          clear hr1
          go_wp2_with fail
          go_loopw [68] (fun jv wx => ∃ j : Nat, j ≤ 2 ∧ jv = .int .i64 (j : Int) ∧ WmX wx w.heap.size wb e bv2 sv2 V2 ∧ Below w.heap.size w wx) (fun jv _ => 2 - (intOf jv).toNat)
          case atStart => exact ⟨0, by omega, rfl, hW2, hB2⟩
          case round =>
            obtain ⟨w6, rfl⟩ : ∃ x : World, x = wr := ⟨_, rfl⟩
            obtain ⟨j, hj, rfl, hW6, hB6⟩ := hrel
            match j, hj with
            | 0, _ =>
              have hq := (show ∀ s, V2.c s = (V2.s s).length ∧ V2.b s = [] ∧ (V2.s s).length ≤ (V2.e s).a ∧ (V2.e s).o = false from hQ2.out) false
              obtain ⟨g1, -, g3, g4⟩ := hq
              have cE := hW6.cE false
              have cN := hW6.cE true
              have cS := hW6.cS false
              have cC := hW6.cC false
              obtain ⟨L, hv, _, hmap⟩ := hW6.sent false
              obtain ⟨AS, cSc, hsv, _, _, _⟩ := own_form hv
              rw [hsv] at cS
              have hLn : L.length = V2.c false := by rw [g1, ← hmap, List.length_map]
              rw [hLn] at cS
              have hop : (V2.e false).l.length - (V2.e false).a = 0 := by have := (hI2.out.sd false).l; rw [this]; omega
              have hcm : (V2.e true).c = V2.c false := (hI2.out.sd true).ec
              obtain ⟨cn, hcn⟩ : ∃ n, V2.c false = n := ⟨_, rfl⟩
              have hO : ∀ p, Calls Try.prog 23 #[.pointer (some ⟨e false, 0, none⟩)] (w6.drewN p) (fun r w2 => r = .returned (.int .i64 0) ∧ w6.drewN p = w2) := fun p => by
                have := open_ (w6.drewN p) (e false) _ _ ((hW6.ends false).drewN p)
                rw [hop] at this
                exact this
              have hOw : ∀ p, Calls Try.prog 25 #[.pointer (some ⟨e false, 0, none⟩)] (w6.drewN p) (fun r w2 => r = .returned (.bool false) ∧ w6.drewN p = w2) := fun p => by
                have := owes_ (w6.drewN p) (e false) _ _ ((hW6.ends false).drewN p)
                rwa [g4] at this
              have hC : ∀ p, Calls Try.prog 24 #[.pointer (some ⟨e true, 0, none⟩)] (w6.drewN p) (fun r w2 => r = .returned (.int .i64 (cn : Int)) ∧ w6.drewN p = w2) := fun p => by
                have := came_ (w6.drewN p) (e true) _ _ ((hW6.ends true).drewN p)
                rwa [hcm, hcn] at this
              rw [hcn] at cS cC
              rw [show so false = 0 from rfl] at cE cS cC
              rw [show so true = 1 from rfl] at cN
              simp only [Nat.add_zero, Nat.reduceAdd] at cS cC
              have tq : ((cn : Int) != (cn : Int)) = false := ne_f rfl
              clear g1 g3 g4 hv hmap hsv hLn hop hcm hcn
              go_wp2_with fail
              go_quiet (first
                | (go_at_call 23; exact quiet_back (hO _))
                | (go_at_call 25; exact quiet_back (hOw _))
                | (go_at_call 24; exact quiet_back (hC _)))
              go_wp2
              exact ⟨⟨1, by omega, rfl, hW6.drewN nq, below_drewN hB6 nq⟩, by simp [intOf]⟩
            | 1, _ =>
              have hq := (show ∀ s, V2.c s = (V2.s s).length ∧ V2.b s = [] ∧ (V2.s s).length ≤ (V2.e s).a ∧ (V2.e s).o = false from hQ2.out) true
              obtain ⟨g1, -, g3, g4⟩ := hq
              have cE := hW6.cE true
              have cN := hW6.cE false
              have cS := hW6.cS true
              have cC := hW6.cC true
              obtain ⟨L, hv, _, hmap⟩ := hW6.sent true
              obtain ⟨AS, cSc, hsv, _, _, _⟩ := own_form hv
              rw [hsv] at cS
              have hLn : L.length = V2.c true := by rw [g1, ← hmap, List.length_map]
              rw [hLn] at cS
              have hop : (V2.e true).l.length - (V2.e true).a = 0 := by have := (hI2.out.sd true).l; rw [this]; omega
              have hcm : (V2.e false).c = V2.c true := (hI2.out.sd false).ec
              obtain ⟨cn, hcn⟩ : ∃ n, V2.c true = n := ⟨_, rfl⟩
              have hO : ∀ p, Calls Try.prog 23 #[.pointer (some ⟨e true, 0, none⟩)] (w6.drewN p) (fun r w2 => r = .returned (.int .i64 0) ∧ w6.drewN p = w2) := fun p => by
                have := open_ (w6.drewN p) (e true) _ _ ((hW6.ends true).drewN p)
                rw [hop] at this
                exact this
              have hOw : ∀ p, Calls Try.prog 25 #[.pointer (some ⟨e true, 0, none⟩)] (w6.drewN p) (fun r w2 => r = .returned (.bool false) ∧ w6.drewN p = w2) := fun p => by
                have := owes_ (w6.drewN p) (e true) _ _ ((hW6.ends true).drewN p)
                rwa [g4] at this
              have hC : ∀ p, Calls Try.prog 24 #[.pointer (some ⟨e false, 0, none⟩)] (w6.drewN p) (fun r w2 => r = .returned (.int .i64 (cn : Int)) ∧ w6.drewN p = w2) := fun p => by
                have := came_ (w6.drewN p) (e false) _ _ ((hW6.ends false).drewN p)
                rwa [hcm, hcn] at this
              rw [hcn] at cS cC
              rw [show so true = 1 from rfl] at cE cS cC
              rw [show so false = 0 from rfl] at cN
              simp only [Nat.add_zero, Nat.reduceAdd] at cS cC
              have tq : ((cn : Int) != (cn : Int)) = false := ne_f rfl
              clear g1 g3 g4 hv hmap hsv hLn hop hcm hcn
              go_wp2_with fail
              go_quiet (first
                | (go_at_call 23; exact quiet_back (hO _))
                | (go_at_call 25; exact quiet_back (hOw _))
                | (go_at_call 24; exact quiet_back (hC _)))
              go_wp2
              exact ⟨⟨2, by omega, rfl, hW6.drewN nq, below_drewN hB6 nq⟩, by simp [intOf]⟩
            | 2, _ =>
              have c8 := hW6.cX
              rw [hI2.out.ok] at c8
              go_wp2
              go_ret
              exact ⟨rfl, hB6⟩
end
end Ses
open Ses Net

set_option maxRecDepth 100000 in
theorem sessAll_lifted (os : Os) (started : os.Started) (H : Type) (enc : TypeId × Value → H) :
    ReturnsInHanded {} Try.checked os 5 .any (Rows.sessAllSpec.pre6 enc Try.prog Try.f5 Rows.sessAllRow.domain false) (Rows.sessAllSpec.post enc Try.prog Try.f5 false true false false) := by
  refine law_lifted (C := Try.checked) (tb := 4) own_ started (by kernel_rfl) Try.func5
    (ChangeSpec.witness6 (enc := enc) (C := Try.checked) false ⟨#[], #[.slice none 0 0], []⟩ 8 (by kernel_rfl) (by kernel_rfl) (by kernel_rfl) (by kernel_rfl))
    rfl rfl Try.underlying4 laidOut_ (by kernel_rfl) (fun ds h => by match ds, h with | [_], _ => rfl) ?_
  intro W base args ds p hval0 hA0 _ hsz0
  have hval : ∀ (j : Nat) t v, Try.f5.params[j]? = some t → args[j]? = some v → Value.okWide Try.prog W .any base t v := hval0
  have hA : DataW.TrodAll enc Try.prog W 0 (fun _ => true) true Try.f5.params.toList args.toList ds p := hA0
  have hsz : (DataW.weightsEach Try.prog Try.f5.params.toList ds).all (· ≤ reachBytes) = true := hsz0
  clear hval0 hA0 hsz0
  rw [Try.params5] at hA hval hsz
  obtain ⟨v0, d0, rfl, rfl, h0⟩ := trodAll_one hA
  obtain ⟨A0, n0, c0, xs0, rfl, r0, b0⟩ := arg_slice ops_dos Try.underlying53 (hval 0 _ v0 rfl rfl) h0 (weight_at hsz (j := 0) rfl rfl)
  exact by
    obtain ⟨ha, hac, hab⟩ := dos_of r0
    exact all_walk W A0 n0 c0 _ ha hac hab

/-- SessAll, for every input: the statement as it was given. -/
theorem sessAll_holds : Rows.SessAllSaid :=
  OpenClaim.holds_of_wide 5 Try.f5 rfl rfl rfl rfl rfl rfl rfl ⟨rfl, rfl, rfl, rfl, rfl⟩ rfl rfl rfl rfl rfl (by kernel_rfl) Try.func5 (by kernel_rfl)
    (of_decide_eq_true (by kernel_rfl)) (by unfold Func.isWrapper; first | (rw [if_pos (by decide +kernel)]; kernel_rfl) | (rw [if_neg (by decide +kernel)]; exact ⟨rfl, rfl⟩))
    (fun os started H enc _ => sessAll_lifted os started H enc)
end Go.Proofs.Ytlmaelbalmjlbaa
