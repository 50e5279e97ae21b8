/- Proves EmapForms of layer 6 (emap), for every input, with no condition: which lists are in their form, and the form of any list, is the document's, or refused. -/
import Derived.Test.YtechbmppbmppdaaEmpW
namespace Go.Proofs.Ytechbmppbmppdaa
open Go.ChangeShapes Go.WideShapes Go.ChangeAt Go.RowKit

set_option maxRecDepth 100000 in
set_option maxHeartbeats 2000000 in
theorem emapForms_walk (w : World) (A : Option Addr) (n c : Nat) (l : List Ext) (h : Es w A n l) (hn : n ≤ 9223372036854775807) :
    Calls Try.prog 3 #[.slice A n c] w fun e w' => e = .returned (.bool true) ∧ Below w.heap.size w w' := by
  obtain ⟨er, her⟩ : ∃ z, errOf (listB l) = z := ⟨_, rfl⟩
  obtain ⟨res, hres⟩ : ∃ z, ifL (listB l) (joinL l) = z := ⟨_, rfl⟩
  obtain ⟨R, hR⟩ : ∃ z, rightB l = z := ⟨_, rfl⟩
  have Her := Lib.hid her
  have Hres := Lib.hid hres
  have HR := Lib.hid hR
  clear her hres hR
  go_enter Try.func3, Try.ntmps3
  go_wp2_with fail
  refine (form_ w A n c l h hn).mono ?_
  rw [Her.out, Hres.out]
  rintro e w1 ⟨A1, m1, c1, rfl, g1, hb1⟩
  go_wp2_with fail
  refine (rform_ w1 A n c l (h.below hb1) hn).mono ?_
  rw [Her.out, Hres.out]
  rintro e w2 ⟨A2, m2, c2, rfl, g2, hb2⟩
  have hB2 := below_step hb1 hb2 (Nat.le_refl _)
  have g12 := g1.keep hb2
  clear g1 hb1 hb2
  go_wp2_with fail
  refine (right_ w2 A n c l (h.below hB2) hn).mono ?_
  rw [HR.out]
  rintro e w3 ⟨rfl, hb3⟩
  have hB3 := below_step hB2 hb3 (Nat.le_refl _)
  have g13 := g12.keep hb3
  have g23 := g2.keep hb3
  clear g12 g2 hb3 hB2
  go_wp2_with fail
  refine (rright_ w3 A n c l (h.below hB3) hn).mono ?_
  rw [HR.out]
  rintro e w4 ⟨rfl, hb4⟩
  have hB4 := below_step hB3 hb4 (Nat.le_refl _)
  have g14 := g13.keep hb4
  have g24 := g23.keep hb4
  clear g13 g23 hb4 hB3
  go_wp2_with fail
  refine (same_ w4 A1 A2 m1 m2 c1 c2 res g14.es g24.es g14.le).mono ?_
  rintro e w5 ⟨k5, rfl, rfl⟩
  go_wp2_with fail
  refine (alive_ _).mono ?_
  rintro e w6 ⟨rfl, hb6⟩
  go_wp2
  go_ret
  exact ⟨rfl, below_step hB4 (Below.mono (⟨hb6.os, hb6.tape, hb6.output, hb6.size, hb6.block⟩ : Below w4.heap.size w4 w6) (Nat.le_refl _)) (Nat.le_refl _)⟩


set_option maxRecDepth 100000 in
theorem emapForms_lifted (os : Os) (started : os.Started) (H : Type) (enc : TypeId × Value → H) :
    ReturnsInHanded {} Try.checked os 3 .any (Rows.emapFormsSpec.pre6 enc Try.prog Try.f3 Rows.emapFormsRow.domain false) (Rows.emapFormsSpec.post enc Try.prog Try.f3 false true false false) := by
  refine law_lifted (C := Try.checked) (tb := 4) own_ started (by kernel_rfl) Try.func3
    (ChangeSpec.witness6 (enc := enc) (C := Try.checked) false ⟨#[], #[.slice none 0 0], []⟩ 8 (by kernel_rfl) (by kernel_rfl) (by kernel_rfl) (by kernel_rfl))
    rfl rfl Try.underlying4 laidOut_ (by kernel_rfl) (fun ds h => by match ds, h with | [_], _ => rfl) ?_
  intro W base args ds p hval0 hA0 _ hsz0
  have hval : ∀ (j : Nat) t v, Try.f3.params[j]? = some t → args[j]? = some v → Value.okWide Try.prog W .any base t v := hval0
  have hA : DataW.TrodAll enc Try.prog W 0 (fun _ => true) true Try.f3.params.toList args.toList ds p := hA0
  have hsz : (DataW.weightsEach Try.prog Try.f3.params.toList ds).all (· ≤ reachBytes) = true := hsz0
  clear hval0 hA0 hsz0
  rw [Try.params3] at hA hval hsz
  obtain ⟨v0, d0, rfl, rfl, h0⟩ := trodAll_one hA
  obtain ⟨A0, n0, c0, xs0, rfl, r0, b0⟩ := arg_slice ops_exts Try.underlying22 (hval 0 _ v0 rfl rfl) h0 (weight_at hsz (j := 0) rfl rfl)
  obtain ⟨es0, hn0, hc0, _⟩ := exts_es r0
  exact emapForms_walk W A0 n0 c0 _ es0 (by omega)

/-- EmapForms, for every input: the statement as it was given. -/
theorem emapForms_holds : Rows.EmapFormsSaid :=
  OpenClaim.holds_of_wide 3 Try.f3 rfl rfl rfl rfl rfl rfl rfl ⟨rfl, rfl, rfl, rfl, rfl⟩ rfl rfl rfl rfl rfl (by kernel_rfl) Try.func3 (by kernel_rfl)
    (of_decide_eq_true (by kernel_rfl)) (by unfold Func.isWrapper; first | (rw [if_pos (by decide +kernel)]; kernel_rfl) | (rw [if_neg (by decide +kernel)]; exact ⟨rfl, rfl⟩))
    (fun os started H enc _ => emapForms_lifted os started H enc)
end Go.Proofs.Ytechbmppbmppdaa
