/- Layer 17: all commit, or none (BarrierAll). No condition. -/
import Derived.Test.YtpjbeodnalgkfaaBarRt
set_option linter.all false
namespace Go.Proofs.Ytpjbeodnalgkfaa
open Go.ChangeShapes Go.WideShapes Go.ChangeAt Go.RowKit
namespace Bar
theorem inv_do {W : Wd} (h : Inv W) (d : Dod) : Inv (wDo W d) := by
  unfold wDo
  split
  · exact inv_beg h _
  · exact inv_step h
  · exact inv_del h _
  · exact inv_two h _
  · exact inv_lose h _
  · exact inv_wHear h _
  · exact inv_crA h _
  · split
    · exact inv_ab h
    · exact inv_cr h
section
variable (w : World)
set_option maxRecDepth 100000 in
set_option maxHeartbeats 8000000 in
theorem barrierAll_walk (k0 : Nat) (hk0 : k0 < 256) (A : Option Addr) (n c : Nat) (l : List Dod) (h : DoL w A n l) (hnc : n ≤ c) (hc : c * 24 ≤ 140737488351232) :
    Calls Try.prog 5 #[.int .u8 (k0 : Int), .slice A n c] w fun r w' => r = .returned (.bool true) ∧ Below w.heap.size w w' := by
  obtain ⟨q, hq⟩ : ∃ q, min n 400 = q := ⟨_, rfl⟩
  have hqi : min (n : Int) 400 = (q : Int) := by omega
  have hqn : q ≤ n := by omega
  have hq4 : q ≤ 400 := by omega
  have hqni : (q : Int) ≤ (n : Int) := by omega
  have hqci : (q : Int) ≤ (c : Int) := by omega
  have hq0 : (0 : Int) ≤ (q : Int) := by omega
  have HD := Lib.hid h
  have hk1 : 1 ≤ k0 % 5 + 1 := by omega
  have hk5 : k0 % 5 + 1 ≤ 5 := by omega
  have hBgn := wbegin_ w k0 hk0
  obtain ⟨K, hK⟩ : ∃ K, k0 % 5 + 1 = K := ⟨_, rfl⟩
  rw [hK] at hk1 hk5 hBgn
  clear hq h hK
  go_enter Try.func5, Try.ntmps5
  go_wp2_with fail
  refine hBgn.mono ?_
  rintro r w1 ⟨wb, cg, gs, av, rfl, h1, hB1⟩
  obtain ⟨a, ha⟩ : ∃ a, w.heap.size = a := ⟨_, rfl⟩
  have Ha := Lib.hid ha
  rw [ha] at h1 hB1
  have hs1 : a ≤ w1.heap.size := by rw [← ha]; exact hB1.size
  clear ha hBgn
  go_wp2_with fail
  refine (alive_ w1).mono ?_
  rintro r w2 ⟨rfl, hb2⟩
  have h2 := h1.keep hb2
  have hB2 : Below a w w2 := hB1.trans (hb2.mono hs1)
  clear h1 hB1 hb2 hs1
  go_wp2_with fail
  go_loopw [26] (fun iv wr => ∃ (i : Nat) (W : Wd) (ov xv jv : Value), i ≤ q ∧ iv = .int .i64 (i : Int) ∧ WmX wr a (fun _ => False) wb cg gs av ov xv jv W ∧ Hid (Inv W) ∧ Hid (Lim i W) ∧ Below a w wr) (fun iv _ => q - (intOf iv).toNat)
  case atStart => exact ⟨0, _, _, _, _, Nat.zero_le _, rfl, h2, Lib.hid (inv0 hk1), Lib.hid (lim0 hk5), hB2⟩
  case round =>
    obtain ⟨i, W, ov, xv, jv, hi, rfl, hW, hI, hL, hB⟩ := hrel
    clear h2 hB2
    by_cases hlt : i < q
    · have hil : (i : Int) < (q : Int) := by omega
      have hi0 : (0 : Int) ≤ (i : Int) := by omega
      obtain ⟨ba, oa, d, rfl, hl, hF, hcs⟩ := HD.out.at_ i (by omega)
      have hBw : Below w.heap.size w wr := by rw [Ha.out]; exact hB
      have d0 : wr.cell? ⟨ba, oa + i * 3, none⟩ = some (.int .u8 (d.kd : Int)) := (hBw.cell (cell_lt (hcs 0 _ rfl))).trans (hcs 0 _ rfl)
      have d1 : wr.cell? ⟨ba, oa + i * 3 + 1, none⟩ = some (.int .i64 d.id) := (hBw.cell (cell_lt (hcs 1 _ rfl))).trans (hcs 1 _ rfl)
      have d2 : wr.cell? ⟨ba, oa + i * 3 + 2, none⟩ = some (.int .i64 d.i) := (hBw.cell (cell_lt (hcs 2 _ rfl))).trans (hcs 2 _ rfl)
      have hba : Below wr.heap.size wr (wr.alloc (.cells (doa d) 66)) := (Below.refl _ _).alloc (Nat.le_refl _) _
      have hbd : Blk (wr.alloc (.cells (doa d) 66)) wr.heap.size 66 (doa d) := Blk.new wr _ _ rfl
      have har : a ≤ wr.heap.size := by have := hB.size; rw [Ha.out] at this; exact this
      have h4 := hW.keep hba
      have hB4 := hB.trans (hba.mono har)
      have hw4s : (wr.alloc (.cells (doa d) 66)).heap.size = wr.heap.size + 1 := by simp
      have hLim2 := Lib.hid (Lim.do hL.out hW.co.idr d hF.id)
      have hInv2 := Lib.hid (inv_do hI.out d)
      clear hba hcs hBw hl
      have hDo := wdo_ (wr.alloc (.cells (doa d) 66)) a (fun _ => False) wb cg gs av ov xv jv W h4 hL.out (by omega) d hF
      go_wp2_with fail
      refine hDo.mono ?_
      rintro r w5 ⟨ov5, xv5, jv5, rfl, h5, hb5⟩
      have hB5 := hB4.trans (hb5.below (by rw [hw4s]; omega))
      have hs5 : a ≤ w5.heap.size := by have := hB5.size; rw [Ha.out] at this; exact this
      clear hDo hB4 hb5 hW hB d0 d1 d2 hbd h4
      have hRt := right_ w5 a (fun _ => False) wb cg gs av ov5 xv5 jv5 _ h5 hLim2.out (by omega) (right_is hInv2.out)
      go_wp2_with fail
      refine hRt.mono ?_
      rintro r w6 ⟨rfl, hb6⟩
      have h6 := h5.keep hb6
      have hB6 := hB5.trans (hb6.mono hs5)
      clear hRt h5 hB5 hb6
      go_wp2
      go_roundw
      case rel => exact ⟨i + 1, _, ov5, xv5, jv5, by omega, by go_num, h6, hInv2, hLim2, hB6⟩
      case measure => simp [intOf]; omega
    · have he : i = q := by omega
      subst he
      have hil : ¬ (i : Int) < (i : Int) := by omega
      go_wp2
      go_ret
      exact ⟨rfl, by rw [Ha.out]; exact hB⟩
end
end Bar
open Bar

set_option maxRecDepth 100000 in
theorem barrierAll_lifted (os : Os) (started : os.Started) (H : Type) (enc : TypeId × Value → H) :
    ReturnsInHanded {} Try.checked os 5 .any (Rows.barrierAllSpec.pre6 enc Try.prog Try.f5 Rows.barrierAllRow.domain false) (Rows.barrierAllSpec.post enc Try.prog Try.f5 false true false false) := by
  refine law_lifted (C := Try.checked) (tb := 4) own_ started (by kernel_rfl) Try.func5
    (ChangeSpec.witness6 (enc := enc) (C := Try.checked) false ⟨#[], #[.int .u8 0, .slice none 0 0], []⟩ 8 (by kernel_rfl) (by kernel_rfl) (by kernel_rfl) (by kernel_rfl))
    rfl rfl Try.underlying4 laidOut_ (by kernel_rfl) (fun ds h => by match ds, h with | [_, _], _ => rfl) ?_
  intro W base args ds p hval0 hA0 _ hsz0
  have hval : ∀ (j : Nat) t v, Try.f5.params[j]? = some t → args[j]? = some v → Value.okWide Try.prog W .any base t v := hval0
  have hA : DataW.TrodAll enc Try.prog W 0 (fun _ => true) true Try.f5.params.toList args.toList ds p := hA0
  have hsz : (DataW.weightsEach Try.prog Try.f5.params.toList ds).all (· ≤ reachBytes) = true := hsz0
  clear hval0 hA0 hsz0
  rw [Try.params5] at hA hval hsz
  obtain ⟨v0, v1, d0, d1, p0, p1, rfl, rfl, rfl, h0, h1⟩ := trodAll_two hA
  obtain ⟨k0, rfl, hz0⟩ := arg_nat _ Try.underlying5 (hval 0 _ v0 rfl rfl) h0 wf_u8
  obtain ⟨A1, n1, c1, xs1, rfl, r1, b1⟩ := arg_slice ops_dos Try.underlying61 (hval 1 _ v1 rfl rfl) h1 (weight_at hsz (j := 1) rfl rfl)
  exact by
    obtain ⟨ha, hnc, hc⟩ := dos_of r1
    exact barrierAll_walk W k0 (by omega) A1 n1 c1 _ ha hnc hc

/-- BarrierAll, for every input: the statement as it was given. -/
theorem barrierAll_holds : Rows.BarrierAllSaid :=
  OpenClaim.holds_of_wide 5 Try.f5 rfl rfl rfl rfl rfl rfl rfl ⟨rfl, rfl, rfl, rfl, rfl⟩ rfl rfl rfl rfl rfl (by kernel_rfl) Try.func5 (by kernel_rfl)
    (of_decide_eq_true (by kernel_rfl)) (by unfold Func.isWrapper; first | (rw [if_pos (by decide +kernel)]; kernel_rfl) | (rw [if_neg (by decide +kernel)]; exact ⟨rfl, rfl⟩))
    (fun os started H enc _ => barrierAll_lifted os started H enc)
end Go.Proofs.Ytpjbeodnalgkfaa
