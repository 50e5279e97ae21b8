/- Layer 16: what comes at one end are the first loads that the other one sent, in order, each once (SessOrder). No condition. -/
import Derived.Test.YtlmaelbalmjlbaaSesZ
import Derived.Test.YtlmaelbalmjlbaaSesAr
set_option linter.all false
namespace Go.Proofs.Ytlmaelbalmjlbaa
open Go.ChangeShapes Go.WideShapes Go.ChangeAt Go.RowKit
namespace Ses
open Net
section
variable (w : World)
set_option maxRecDepth 100000 in
set_option maxHeartbeats 8000000 in
theorem order_walk (A : Option Addr) (n c : Nat) (l : List Dod) (h : Dos w A n l) (hnc : n ≤ c) (hc : c * 64 ≤ 140737488351232) :
    Calls Try.prog 4 #[.slice A n c] w fun r w' => r = .returned (.bool true) ∧ Below w.heap.size w w' := by
  obtain ⟨q, hq⟩ : ∃ q, min n 2000 = q := ⟨_, rfl⟩
  have hqi : min (n : Int) 2000 = (q : Int) := by omega
  have hqn : q ≤ n := by omega
  have hq20 : q ≤ 2000 := by omega
  have hqni : (q : Int) ≤ (n : Int) := by omega
  have hqci : (q : Int) ≤ (c : Int) := by omega
  have hq0 : (0 : Int) ≤ (q : Int) := by omega
  have HD := Lib.hid h
  clear hq h
  go_enter Try.func4, Try.ntmps4
  go_wp2_with fail
  refine (wbegin_ w).mono ?_
  rintro r w1 ⟨wb, ⟨rfl, hwb⟩, hG1, hB1⟩
  obtain ⟨e, h1⟩ := hG1.two hwb
  have hs1 := hB1.size
  go_wp2_with fail
  refine (alive_ w1).mono ?_
  rintro r w2 ⟨rfl, hb2⟩
  have h2 := h1.keep hb2
  have hB2 : Below w.heap.size w w2 := hB1.trans (hb2.mono hs1)
  clear hG1 h1 hB1 hb2
  go_wp2_with fail
  go_loopw [23] (fun iv wr => ∃ (i : Nat) (W : Wd) (bv sv : Bool → Value), i ≤ q ∧ iv = .int .i64 (i : Int) ∧ WmX wr w.heap.size wb e bv sv W ∧ Hid (Inv W i) ∧ Below w.heap.size w wr) (fun iv _ => q - (intOf iv).toNat)
  case atStart => exact ⟨0, _, _, _, Nat.zero_le _, rfl, h2, Lib.hid inv0, hB2⟩
  case round =>
    obtain ⟨i, W, bv, sv, hi, rfl, hW, hI, hB⟩ := hrel
    have hi0 : (0 : Int) ≤ (i : Int) := by omega
    by_cases hlt : i < q
    · have hil : (i : Int) < (q : Int) := by omega
      obtain ⟨ba, oa, a, Y, y, z, rfl, hl, hA, hcs⟩ := HD.out.at_ i (by omega)
      have d0 := (hB.cell (cell_lt (hcs 0 _ rfl))).trans (hcs 0 _ rfl)
      have d1 := (hB.cell (cell_lt (hcs 1 _ rfl))).trans (hcs 1 _ rfl)
      have d2 := (hB.cell (cell_lt (hcs 2 _ rfl))).trans (hcs 2 _ rfl)
      have d3 := (hB.cell (cell_lt (hcs 3 _ rfl))).trans (hcs 3 _ rfl)
      have d4 := (hB.cell (cell_lt (hcs 4 _ rfl))).trans (hcs 4 _ rfl)
      have d5 := (hB.cell (cell_lt (hcs 5 _ rfl))).trans (hcs 5 _ rfl)
      simp only [Nat.add_zero] at d0
      have HYB := Lib.hid (rd_lt2 hA.d.bs)
      have hbd : Blk (wr.alloc (.cells (da a (.slice Y y z)) 58)) wr.heap.size 58 (da a (.slice Y y z)) := Blk.new wr _ _ rfl
      have hba : Below wr.heap.size wr (wr.alloc (.cells (da a (.slice Y y z)) 58)) := (Below.refl _ _).alloc (Nat.le_refl _) _
      have hsr := hB.size
      have hW4 := hW.keep hba
      have hB4 := hB.trans (hba.mono hsr)
      have hA4 := hA.below hB4
      have hDo := wdo_ (wr.alloc (.cells (da a (.slice Y y z)) 58)) w.heap.size wb e bv sv W hW4 hI.out (by omega) a Y y z hA4 HYB.out
      clear hba hA hcs hl hA4
      go_wp2_with fail
      obtain ⟨w4, hw4⟩ : ∃ w4, wr.alloc (.cells (da a (.slice Y y z)) 58) = w4 := ⟨_, rfl⟩
      rw [hw4] at hbd hW4 hB4 hDo ⊢
      clear d0 d1 d2 d3 d4 d5 hbd hW4 hw4
      refine hDo.mono ?_
      rintro r w5 ⟨bv5, sv5, rfl, h5, hb5⟩
      have hI5 := Lib.hid (inv_do hI.out (by omega) (sideB a.side) (doA a))
      have hB5 := hB4.trans hb5
      clear hDo hB4 hb5 hW hB
      have c8 := h5.cX
      rw [hI5.out.ok] at c8
      go_wp2
      exact ⟨⟨i + 1, _, _, _, by omega, by go_num, h5, hI5, hB5⟩, by simp [intOf]; omega⟩
    · have hin : ¬ (i : Int) < (q : Int) := by omega
      go_wp2
      go_ret
      exact ⟨rfl, hB⟩
end
end Ses
open Ses Net

set_option maxRecDepth 100000 in
theorem sessOrder_lifted (os : Os) (started : os.Started) (H : Type) (enc : TypeId × Value → H) :
    ReturnsInHanded {} Try.checked os 4 .any (Rows.sessOrderSpec.pre6 enc Try.prog Try.f4 Rows.sessOrderRow.domain false) (Rows.sessOrderSpec.post enc Try.prog Try.f4 false true false false) := by
  refine law_lifted (C := Try.checked) (tb := 4) own_ started (by kernel_rfl) Try.func4
    (ChangeSpec.witness6 (enc := enc) (C := Try.checked) false ⟨#[], #[.slice none 0 0], []⟩ 8 (by kernel_rfl) (by kernel_rfl) (by kernel_rfl) (by kernel_rfl))
    rfl rfl Try.underlying4 laidOut_ (by kernel_rfl) (fun ds h => by match ds, h with | [_], _ => rfl) ?_
  intro W base args ds p hval0 hA0 _ hsz0
  have hval : ∀ (j : Nat) t v, Try.f4.params[j]? = some t → args[j]? = some v → Value.okWide Try.prog W .any base t v := hval0
  have hA : DataW.TrodAll enc Try.prog W 0 (fun _ => true) true Try.f4.params.toList args.toList ds p := hA0
  have hsz : (DataW.weightsEach Try.prog Try.f4.params.toList ds).all (· ≤ reachBytes) = true := hsz0
  clear hval0 hA0 hsz0
  rw [Try.params4] at hA hval hsz
  obtain ⟨v0, d0, rfl, rfl, h0⟩ := trodAll_one hA
  obtain ⟨A0, n0, c0, xs0, rfl, r0, b0⟩ := arg_slice ops_dos Try.underlying53 (hval 0 _ v0 rfl rfl) h0 (weight_at hsz (j := 0) rfl rfl)
  exact by
    obtain ⟨ha, hac, hab⟩ := dos_of r0
    exact order_walk W A0 n0 c0 _ ha hac hab

/-- SessOrder, for every input: the statement as it was given. -/
theorem sessOrder_holds : Rows.SessOrderSaid :=
  OpenClaim.holds_of_wide 4 Try.f4 rfl rfl rfl rfl rfl rfl rfl ⟨rfl, rfl, rfl, rfl, rfl⟩ rfl rfl rfl rfl rfl (by kernel_rfl) Try.func4 (by kernel_rfl)
    (of_decide_eq_true (by kernel_rfl)) (by unfold Func.isWrapper; first | (rw [if_pos (by decide +kernel)]; kernel_rfl) | (rw [if_neg (by decide +kernel)]; exact ⟨rfl, rfl⟩))
    (fun os started H enc _ => sessOrder_lifted os started H enc)
end Go.Proofs.Ytlmaelbalmjlbaa
