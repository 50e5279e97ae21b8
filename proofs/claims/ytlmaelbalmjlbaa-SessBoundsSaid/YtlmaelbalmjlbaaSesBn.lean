/- Layer 16: no more than 8 loads are open, none came that was not sent, and what is acked has come (SessBounds). No condition. -/
import Derived.Test.YtlmaelbalmjlbaaSesZ
import Derived.Test.YtlmaelbalmjlbaaSesAr
set_option linter.all false
namespace Go.Proofs.Ytlmaelbalmjlbaa
open Go.ChangeShapes Go.WideShapes Go.ChangeAt Go.RowKit
namespace Ses
open Net
section
variable (w : World)
set_option maxRecDepth 100000 in
set_option maxHeartbeats 8000000 in
theorem bounds_walk (A : Option Addr) (n c : Nat) (l : List Dod) (h : Dos w A n l) (hnc : n ≤ c) (hc : c * 64 ≤ 140737488351232) :
    Calls Try.prog 8 #[.slice A n c] w fun r w' => r = .returned (.bool true) ∧ Below w.heap.size w w' := by
  obtain ⟨q, hq⟩ : ∃ q, min n 2000 = q := ⟨_, rfl⟩
  have hqi : min (n : Int) 2000 = (q : Int) := by omega
  have hqn : q ≤ n := by omega
  have hq20 : q ≤ 2000 := by omega
  have hqni : (q : Int) ≤ (n : Int) := by omega
  have hqci : (q : Int) ≤ (c : Int) := by omega
  have hq0 : (0 : Int) ≤ (q : Int) := by omega
  have HD := Lib.hid h
  clear hq h
  go_enter Try.func8, Try.ntmps8
  go_wp2_with fail
  refine (wbegin_ w).mono ?_
  rintro r w1 ⟨wb, ⟨rfl, hwb⟩, hG1, hB1⟩
  obtain ⟨e, h1⟩ := hG1.two hwb
  have hs1 := hB1.size
  go_wp2_with fail
  refine (alive_ w1).mono ?_
  rintro r w2 ⟨rfl, hb2⟩
  have h2 := h1.keep hb2
  have hB2 : Below w.heap.size w w2 := hB1.trans (hb2.mono hs1)
  clear hG1 h1 hB1 hb2
  go_wp2_with fail
  go_loopw [27] (fun iv wr => ∃ (i : Nat) (W : Wd) (bv sv : Bool → Value), i ≤ q ∧ iv = .int .i64 (i : Int) ∧ WmX wr w.heap.size wb e bv sv W ∧ Hid (Inv W i) ∧ Below w.heap.size w wr) (fun iv _ => q - (intOf iv).toNat)
  case atStart => exact ⟨0, _, _, _, Nat.zero_le _, rfl, h2, Lib.hid inv0, hB2⟩
  case round =>
    obtain ⟨i, W, bv, sv, hi, rfl, hW, hI, hB⟩ := hrel
    have hi0 : (0 : Int) ≤ (i : Int) := by omega
    by_cases hlt : i < q
    · have hil : (i : Int) < (q : Int) := by omega
      obtain ⟨ba, oa, a, Y, y, z, rfl, hl, hA, hcs⟩ := HD.out.at_ i (by omega)
      have d0 := (hB.cell (cell_lt (hcs 0 _ rfl))).trans (hcs 0 _ rfl)
      have d1 := (hB.cell (cell_lt (hcs 1 _ rfl))).trans (hcs 1 _ rfl)
      have d2 := (hB.cell (cell_lt (hcs 2 _ rfl))).trans (hcs 2 _ rfl)
      have d3 := (hB.cell (cell_lt (hcs 3 _ rfl))).trans (hcs 3 _ rfl)
      have d4 := (hB.cell (cell_lt (hcs 4 _ rfl))).trans (hcs 4 _ rfl)
      have d5 := (hB.cell (cell_lt (hcs 5 _ rfl))).trans (hcs 5 _ rfl)
      simp only [Nat.add_zero] at d0
      have HYB := Lib.hid (rd_lt2 hA.d.bs)
      have hbd : Blk (wr.alloc (.cells (da a (.slice Y y z)) 58)) wr.heap.size 58 (da a (.slice Y y z)) := Blk.new wr _ _ rfl
      have hba : Below wr.heap.size wr (wr.alloc (.cells (da a (.slice Y y z)) 58)) := (Below.refl _ _).alloc (Nat.le_refl _) _
      have hsr := hB.size
      have hW4 := hW.keep hba
      have hB4 := hB.trans (hba.mono hsr)
      have hA4 := hA.below hB4
      have hDo := wdo_ (wr.alloc (.cells (da a (.slice Y y z)) 58)) w.heap.size wb e bv sv W hW4 hI.out (by omega) a Y y z hA4 HYB.out
      clear hba hA hcs hl hA4
      go_wp2_with fail
      obtain ⟨w4, hw4⟩ : ∃ w4, wr.alloc (.cells (da a (.slice Y y z)) 58) = w4 := ⟨_, rfl⟩
      rw [hw4] at hbd hW4 hB4 hDo ⊢
      clear d0 d1 d2 d3 d4 d5 hbd hW4 hw4
      refine hDo.mono ?_
      rintro r w5 ⟨bv5, sv5, rfl, h5, hb5⟩
      have hI5 := Lib.hid (inv_do hI.out (by omega) (sideB a.side) (doA a))
      have hB5 := hB4.trans hb5
      clear hDo hB4 hb5 hW hB
      obtain ⟨V, hV⟩ : ∃ V, wDo W (sideB a.side) (doA a) = V := ⟨_, rfl⟩
      rw [hV] at h5 hI5
      obtain ⟨wo, hwo⟩ : ∃ wo : World, wo = wr := ⟨_, rfl⟩
      clear hV hwo
      go_wp2_with fail
      go_loopw [34] (fun jv w6 => ∃ j : Nat, j ≤ 2 ∧ jv = .int .i64 (j : Int) ∧ WmX w6 w.heap.size wb e bv5 sv5 V ∧ Below w.heap.size w w6) (fun jv _ => 2 - (intOf jv).toNat)
      case atStart => exact ⟨0, by omega, rfl, h5, hB5⟩
      case round =>
        obtain ⟨w6, rfl⟩ : ∃ w6 : World, w6 = wr := ⟨_, rfl⟩
        obtain ⟨j, hj, rfl, h6, hB6⟩ := hrel
        match j, hj with
        | 0, _ =>
          have cE := h6.cE false
          have cN := h6.cE true
          have cS := h6.cS false
          have hbn := inv_bounds hI5.out false
          obtain ⟨L, hv, _, hmap⟩ := h6.sent false
          obtain ⟨AS, cSc, hsv, _, _, _⟩ := own_form hv
          rw [hsv] at cS
          have hLn : L.length = (V.s false).length := by rw [← hmap, List.length_map]
          simp only [Bool.not_false, Bool.not_true] at hbn
          obtain ⟨b1, b2, b3, b4, b5⟩ := hbn
          have hsm : (V.s false).length ≤ 2000 := by have := (hI5.out.sd false).len; omega
          obtain ⟨op, hop⟩ : ∃ n, (V.e false).l.length - (V.e false).a = n := ⟨_, rfl⟩
          obtain ⟨cm, hcm⟩ : ∃ n, (V.e true).c = n := ⟨_, rfl⟩
          obtain ⟨sn, hsn⟩ : ∃ n, L.length = n := ⟨_, rfl⟩
          have hO : ∀ p, Calls Try.prog 23 #[.pointer (some ⟨e false, 0, none⟩)] (w6.drewN p) (fun r w2 => r = .returned (.int .i64 (op : Int)) ∧ w6.drewN p = w2) := fun p => by
            have := open_ (w6.drewN p) (e false) _ _ ((h6.ends false).drewN p)
            rwa [hop] at this
          have hC : ∀ p, Calls Try.prog 24 #[.pointer (some ⟨e true, 0, none⟩)] (w6.drewN p) (fun r w2 => r = .returned (.int .i64 (cm : Int)) ∧ w6.drewN p = w2) := fun p => by
            have := came_ (w6.drewN p) (e true) _ _ ((h6.ends true).drewN p)
            rwa [hcm] at this
          have hE : ∀ p, Calls Try.prog 22 #[.pointer (some ⟨e false, 0, none⟩)] (w6.drewN p) (fun r w2 => r = .returned (.int .i64 9) ∧ w6.drewN p = w2) := fun p => by
            have := epoch_ (w6.drewN p) (e false) _ _ ((h6.ends false).drewN p)
            rwa [b5] at this
          rw [hsn] at cS hLn
          have r2 : op ≤ 8 := by omega
          have r3 : cm ≤ sn := by omega
          have r4 : sn - op ≤ cm := by omega
          have r5 : sn ≤ 2000 := by omega
          have r6 : op ≤ sn := by
            have := (hI5.out.sd false).l
            rw [this] at hop
            omega
          have t1 : ¬ (op : Int) < 0 := by omega
          have t2 : ¬ (8 : Int) < (op : Int) := by omega
          have t3 : ¬ (sn : Int) < (cm : Int) := by omega
          have hwr : IntKind.i64.wrap ((sn : Int) - (op : Int)) = ((sn - op : Nat) : Int) := by rw [IntKind.wrap_i64]; omega
          have t4 : ¬ ((sn - op : Nat) : Int) < (cm : Int) ∨ True := .inr trivial
          have t5 : ¬ (cm : Int) < ((sn - op : Nat) : Int) := by omega
          have t6 : ¬ (cm : Int) < (sn : Int) - (op : Int) := by omega
          have hE0 : so false = 0 := rfl
          have hEn : so true = 1 := rfl
          rw [hE0] at cE cS
          rw [hEn] at cN
          simp only [Nat.add_zero, Nat.reduceAdd] at cS
          clear hop hcm hsn hLn b1 b2 b3 b4 b5 r2 r3 r4 r5 r6 hv hmap hsv hE0 hEn t4 hsm
          go_wp2_with fail
          go_quiet (fail)
          go_wp2_with fail
          refine (hO _).mono ?_
          rintro r w9 ⟨rfl, rfl⟩
          go_wp2_with fail
          refine (hO _).mono ?_
          rintro r w9 ⟨rfl, rfl⟩
          go_wp2_with fail
          refine (hC _).mono ?_
          rintro r w9 ⟨rfl, rfl⟩
          go_wp2_with fail
          refine (hO _).mono ?_
          rintro r w9 ⟨rfl, rfl⟩
          go_wp2_with fail
          refine (hC _).mono ?_
          rintro r w9 ⟨rfl, rfl⟩
          go_wp2_with fail
          refine (hE _).mono ?_
          rintro r w9 ⟨rfl, rfl⟩
          go_wp2
          exact ⟨⟨1, by omega, rfl, h6.keep (below_drewN (Below.refl _ _) nq), below_drewN hB6 nq⟩, by simp [intOf]⟩
        | 1, _ =>
          have cE := h6.cE true
          have cN := h6.cE false
          have cS := h6.cS true
          have hbn := inv_bounds hI5.out true
          obtain ⟨L, hv, _, hmap⟩ := h6.sent true
          obtain ⟨AS, cSc, hsv, _, _, _⟩ := own_form hv
          rw [hsv] at cS
          have hLn : L.length = (V.s true).length := by rw [← hmap, List.length_map]
          simp only [Bool.not_false, Bool.not_true] at hbn
          obtain ⟨b1, b2, b3, b4, b5⟩ := hbn
          have hsm : (V.s true).length ≤ 2000 := by have := (hI5.out.sd true).len; omega
          obtain ⟨op, hop⟩ : ∃ n, (V.e true).l.length - (V.e true).a = n := ⟨_, rfl⟩
          obtain ⟨cm, hcm⟩ : ∃ n, (V.e false).c = n := ⟨_, rfl⟩
          obtain ⟨sn, hsn⟩ : ∃ n, L.length = n := ⟨_, rfl⟩
          have hO : ∀ p, Calls Try.prog 23 #[.pointer (some ⟨e true, 0, none⟩)] (w6.drewN p) (fun r w2 => r = .returned (.int .i64 (op : Int)) ∧ w6.drewN p = w2) := fun p => by
            have := open_ (w6.drewN p) (e true) _ _ ((h6.ends true).drewN p)
            rwa [hop] at this
          have hC : ∀ p, Calls Try.prog 24 #[.pointer (some ⟨e false, 0, none⟩)] (w6.drewN p) (fun r w2 => r = .returned (.int .i64 (cm : Int)) ∧ w6.drewN p = w2) := fun p => by
            have := came_ (w6.drewN p) (e false) _ _ ((h6.ends false).drewN p)
            rwa [hcm] at this
          have hE : ∀ p, Calls Try.prog 22 #[.pointer (some ⟨e true, 0, none⟩)] (w6.drewN p) (fun r w2 => r = .returned (.int .i64 9) ∧ w6.drewN p = w2) := fun p => by
            have := epoch_ (w6.drewN p) (e true) _ _ ((h6.ends true).drewN p)
            rwa [b5] at this
          rw [hsn] at cS hLn
          have r2 : op ≤ 8 := by omega
          have r3 : cm ≤ sn := by omega
          have r4 : sn - op ≤ cm := by omega
          have r5 : sn ≤ 2000 := by omega
          have r6 : op ≤ sn := by
            have := (hI5.out.sd true).l
            rw [this] at hop
            omega
          have t1 : ¬ (op : Int) < 0 := by omega
          have t2 : ¬ (8 : Int) < (op : Int) := by omega
          have t3 : ¬ (sn : Int) < (cm : Int) := by omega
          have hwr : IntKind.i64.wrap ((sn : Int) - (op : Int)) = ((sn - op : Nat) : Int) := by rw [IntKind.wrap_i64]; omega
          have t4 : ¬ ((sn - op : Nat) : Int) < (cm : Int) ∨ True := .inr trivial
          have t5 : ¬ (cm : Int) < ((sn - op : Nat) : Int) := by omega
          have t6 : ¬ (cm : Int) < (sn : Int) - (op : Int) := by omega
          have hE0 : so true = 1 := rfl
          have hEn : so false = 0 := rfl
          rw [hE0] at cE cS
          rw [hEn] at cN
          simp only [Nat.add_zero, Nat.reduceAdd] at cS
          clear hop hcm hsn hLn b1 b2 b3 b4 b5 r2 r3 r4 r5 r6 hv hmap hsv hE0 hEn t4 hsm
          go_wp2_with fail
          go_quiet (fail)
          go_wp2_with fail
          refine (hO _).mono ?_
          rintro r w9 ⟨rfl, rfl⟩
          go_wp2_with fail
          refine (hO _).mono ?_
          rintro r w9 ⟨rfl, rfl⟩
          go_wp2_with fail
          refine (hC _).mono ?_
          rintro r w9 ⟨rfl, rfl⟩
          go_wp2_with fail
          refine (hO _).mono ?_
          rintro r w9 ⟨rfl, rfl⟩
          go_wp2_with fail
          refine (hC _).mono ?_
          rintro r w9 ⟨rfl, rfl⟩
          go_wp2_with fail
          refine (hE _).mono ?_
          rintro r w9 ⟨rfl, rfl⟩
          go_wp2
          exact ⟨⟨2, by omega, rfl, h6.keep (below_drewN (Below.refl _ _) nq), below_drewN hB6 nq⟩, by simp [intOf]⟩
        | 2, _ =>
          go_wp2
          exact ⟨⟨i + 1, _, _, _, by omega, by go_num, h6, hI5, hB6⟩, by simp [intOf]; omega⟩
    · have hin : ¬ (i : Int) < (q : Int) := by omega
      have c8 := hW.cX
      rw [hI.out.ok] at c8
      go_wp2
      go_ret
      exact ⟨rfl, hB⟩
end
end Ses
open Ses Net

set_option maxRecDepth 100000 in
theorem sessBounds_lifted (os : Os) (started : os.Started) (H : Type) (enc : TypeId × Value → H) :
    ReturnsInHanded {} Try.checked os 8 .any (Rows.sessBoundsSpec.pre6 enc Try.prog Try.f8 Rows.sessBoundsRow.domain false) (Rows.sessBoundsSpec.post enc Try.prog Try.f8 false true false false) := by
  refine law_lifted (C := Try.checked) (tb := 4) own_ started (by kernel_rfl) Try.func8
    (ChangeSpec.witness6 (enc := enc) (C := Try.checked) false ⟨#[], #[.slice none 0 0], []⟩ 8 (by kernel_rfl) (by kernel_rfl) (by kernel_rfl) (by kernel_rfl))
    rfl rfl Try.underlying4 laidOut_ (by kernel_rfl) (fun ds h => by match ds, h with | [_], _ => rfl) ?_
  intro W base args ds p hval0 hA0 _ hsz0
  have hval : ∀ (j : Nat) t v, Try.f8.params[j]? = some t → args[j]? = some v → Value.okWide Try.prog W .any base t v := hval0
  have hA : DataW.TrodAll enc Try.prog W 0 (fun _ => true) true Try.f8.params.toList args.toList ds p := hA0
  have hsz : (DataW.weightsEach Try.prog Try.f8.params.toList ds).all (· ≤ reachBytes) = true := hsz0
  clear hval0 hA0 hsz0
  rw [Try.params8] at hA hval hsz
  obtain ⟨v0, d0, rfl, rfl, h0⟩ := trodAll_one hA
  obtain ⟨A0, n0, c0, xs0, rfl, r0, b0⟩ := arg_slice ops_dos Try.underlying53 (hval 0 _ v0 rfl rfl) h0 (weight_at hsz (j := 0) rfl rfl)
  exact by
    obtain ⟨ha, hac, hab⟩ := dos_of r0
    exact bounds_walk W A0 n0 c0 _ ha hac hab

/-- SessBounds, for every input: the statement as it was given. -/
theorem sessBounds_holds : Rows.SessBoundsSaid :=
  OpenClaim.holds_of_wide 8 Try.f8 rfl rfl rfl rfl rfl rfl rfl ⟨rfl, rfl, rfl, rfl, rfl⟩ rfl rfl rfl rfl rfl (by kernel_rfl) Try.func8 (by kernel_rfl)
    (of_decide_eq_true (by kernel_rfl)) (by unfold Func.isWrapper; first | (rw [if_pos (by decide +kernel)]; kernel_rfl) | (rw [if_neg (by decide +kernel)]; exact ⟨rfl, rfl⟩))
    (fun os started H enc _ => sessBounds_lifted os started H enc)
end Go.Proofs.Ytlmaelbalmjlbaa
