/- Proves EmapTells of layer 6 (emap), for every input, with no condition: any block's unit, and which extents are younger, is told as the document says. -/
import Derived.Test.YtechbmppbmppdaaEmpW
namespace Go.Proofs.Ytechbmppbmppdaa
open Go.ChangeShapes Go.WideShapes Go.ChangeAt Go.RowKit

set_option maxRecDepth 100000 in
set_option maxHeartbeats 2000000 in
theorem emapTells_walk (w : World) (A : Option Addr) (n c : Nat) (l : List Ext) (h : Es w A n l) (hn : n ≤ 9223372036854775807) (o b : Int) (ho : I64 o) (hb : I64 b) :
    Calls Try.prog 5 #[.slice A n c, .int .i64 o, .int .i64 b] w fun e w' => e = .returned (.bool true) ∧ Below w.heap.size w w' := by
  obtain ⟨er, her⟩ : ∃ z, errOf (rightB l) = z := ⟨_, rfl⟩
  obtain ⟨res, hres⟩ : ∃ z, ifL (rightB l) (sinceL l b) = z := ⟨_, rfl⟩
  obtain ⟨p, q, r, ht⟩ : ∃ p q r, atV (atR l o) = #[.int .i64 p, .int .i64 q, .bool r] := by
    cases atR l o with
    | none => exact ⟨_, _, _, rfl⟩
    | some v => exact ⟨_, _, _, rfl⟩
  have Her := Lib.hid her
  have Hres := Lib.hid hres
  have Ht := Lib.hid ht
  clear her hres ht
  go_enter Try.func5, Try.ntmps5
  go_wp2_with fail
  refine (at_ w A n c l o h hn ho).mono ?_
  rw [Ht.out]
  rintro e w1 ⟨rfl, hb1⟩
  go_wp2_with fail
  refine (rat_ w1 A n c l o (h.below hb1) hn ho).mono ?_
  rw [Ht.out]
  rintro e w2 ⟨rfl, hb2⟩
  have hB2 := below_step hb1 hb2 (Nat.le_refl _)
  clear hb1 hb2
  go_wp2_with fail
  refine (since_ w2 A n c l (h.below hB2) hn b).mono ?_
  rw [Her.out, Hres.out]
  rintro e w3 ⟨A1, m1, c1, rfl, g1, hb3⟩
  have hB3 := below_step hB2 hb3 (Nat.le_refl _)
  clear hb3 hB2
  go_wp2_with fail
  refine (rsince_ w3 A n c l (h.below hB3) hn b).mono ?_
  rw [Her.out, Hres.out]
  rintro e w4 ⟨A2, m2, c2, rfl, g2, hb4⟩
  have hB4 := below_step hB3 hb4 (Nat.le_refl _)
  have g14 := g1.keep hb4
  clear g1 hb4 hB3
  go_wp2_with fail
  refine (same_ w4 A1 A2 m1 m2 c1 c2 res g14.es g2.es g14.le).mono ?_
  rintro e w5 ⟨k5, rfl, rfl⟩
  go_wp2_with fail
  refine (alive_ _).mono ?_
  rintro e w6 ⟨rfl, hb6⟩
  go_wp2
  go_ret
  exact ⟨rfl, below_step hB4 (Below.mono (⟨hb6.os, hb6.tape, hb6.output, hb6.size, hb6.block⟩ : Below w4.heap.size w4 w6) (Nat.le_refl _)) (Nat.le_refl _)⟩


set_option maxRecDepth 100000 in
theorem emapTells_lifted (os : Os) (started : os.Started) (H : Type) (enc : TypeId × Value → H) :
    ReturnsInHanded {} Try.checked os 5 .any (Rows.emapTellsSpec.pre6 enc Try.prog Try.f5 Rows.emapTellsRow.domain false) (Rows.emapTellsSpec.post enc Try.prog Try.f5 false true false false) := by
  refine law_lifted (C := Try.checked) (tb := 4) own_ started (by kernel_rfl) Try.func5
    (ChangeSpec.witness6 (enc := enc) (C := Try.checked) false ⟨#[], #[.slice none 0 0, .int .i64 0, .int .i64 0], []⟩ 8 (by kernel_rfl) (by kernel_rfl) (by kernel_rfl) (by kernel_rfl))
    rfl rfl Try.underlying4 laidOut_ (by kernel_rfl) (fun ds h => by match ds, h with | [_, _, _], _ => rfl) ?_
  intro W base args ds p hval0 hA0 _ hsz0
  have hval : ∀ (j : Nat) t v, Try.f5.params[j]? = some t → args[j]? = some v → Value.okWide Try.prog W .any base t v := hval0
  have hA : DataW.TrodAll enc Try.prog W 0 (fun _ => true) true Try.f5.params.toList args.toList ds p := hA0
  have hsz : (DataW.weightsEach Try.prog Try.f5.params.toList ds).all (· ≤ reachBytes) = true := hsz0
  clear hval0 hA0 hsz0
  rw [Try.params5] at hA hval hsz
  obtain ⟨v0, v1, v2, d0, d1, d2, p0, p1, p2, rfl, rfl, rfl, h0, h1, h2⟩ := trodAll_three hA
  obtain ⟨A0, n0, c0, xs0, rfl, r0, b0⟩ := arg_slice ops_exts Try.underlying22 (hval 0 _ v0 rfl rfl) h0 (weight_at hsz (j := 0) rfl rfl)
  obtain ⟨z1, rfl, hz1⟩ := arg_int _ _ Try.underlying3 (hval 1 _ v1 rfl rfl) h1 wf_i64
  obtain ⟨z2, rfl, hz2⟩ := arg_int _ _ Try.underlying3 (hval 2 _ v2 rfl rfl) h2 wf_i64
  obtain ⟨es0, hn0, hc0, _⟩ := exts_es r0
  exact emapTells_walk W A0 n0 c0 _ es0 (by omega) z1 z2 hz1 hz2

/-- EmapTells, for every input: the statement as it was given. -/
theorem emapTells_holds : Rows.EmapTellsSaid :=
  OpenClaim.holds_of_wide 5 Try.f5 rfl rfl rfl rfl rfl rfl rfl ⟨rfl, rfl, rfl, rfl, rfl⟩ rfl rfl rfl rfl rfl (by kernel_rfl) Try.func5 (by kernel_rfl)
    (of_decide_eq_true (by kernel_rfl)) (by unfold Func.isWrapper; first | (rw [if_pos (by decide +kernel)]; kernel_rfl) | (rw [if_neg (by decide +kernel)]; exact ⟨rfl, rfl⟩))
    (fun os started H enc _ => emapTells_lifted os started H enc)
end Go.Proofs.Ytechbmppbmppdaa
