/- DeltaViews: what any list shows, over any units, is the document's, or refused: for every input. -/
import Derived.Test.YtfdfjnepfgabaaaDelX
set_option linter.all false
namespace Go.Proofs.Ytfdfjnepfgabaaa
open Go.ChangeShapes Go.WideShapes Go.ChangeAt Go.RowKit

set_option maxRecDepth 100000 in
set_option maxHeartbeats 2000000 in
theorem deltaViews_walk (w : World) (A : Option Addr) (n c : Nat) (l : List Ext) (h : Es w A n l) (hn : n ≤ 9223372036854775807) (z : Int) (hz : I64 z) (U : Option Addr) (m d : Nat) (u : List Nat) (hu : Ns w U m u) (hm : m ≤ 9223372036854775807) :
    Calls Try.prog 3 #[.slice A n c, .int .i64 z, .slice U m d] w fun e w' => e = .returned (.bool true) ∧ Below w.heap.size w w' := by
  go_enter Try.func3, Try.ntmps3
  go_wp2_with fail
  refine (view_ _ A n c l z U m d u h hn hz hu hm).mono ?_
  obtain ⟨ev, hev⟩ : ∃ x, vwE l z = x := ⟨_, rfl⟩
  obtain ⟨lv, hlv⟩ : ∃ x, vwL l z u = x := ⟨_, rfl⟩
  rw [hev, hlv]
  have Hev := Lib.hid hev
  have Hlv := Lib.hid hlv
  clear hev hlv
  rintro e w2 ⟨A2, m2, c2, rfl, hG2, hb2⟩
  have h2 := h.below hb2
  have hu2 := hu.below hb2
  go_wp2_with fail
  refine (rview_ _ A n c l z U m d u h2 hn hz hu2 hm).mono ?_
  rw [Hev.out, Hlv.out]
  rintro e w3 ⟨A3, m3, c3, rfl, hG3, hb3⟩
  have hG4 := hG2.keep hb3
  have hB3 := below_step hb2 hb3 (Nat.le_refl _)
  obtain ⟨q1, q2, -⟩ := hG4.bounds
  have hm2 : m2 ≤ 9223372036854775807 := by omega
  go_wp2_with fail
  refine (words_eq _ A2 A3 m2 m3 c2 c3 lv hG4.ns hG3.ns hm2).mono ?_
  rintro e w4 ⟨rfl, hb4⟩
  have hB4 := below_step hB3 hb4 (Nat.le_refl _)
  clear hG2 hG3 hG4 q1 q2
  go_wp2_with fail
  refine (alive9_ _).mono ?_
  rintro e w5 ⟨rfl, hb5⟩
  go_wp2
  go_ret
  exact ⟨rfl, below_step hB4 hb5 (Nat.le_refl _)⟩

set_option maxRecDepth 100000 in
theorem deltaViews_lifted (os : Os) (started : os.Started) (H : Type) (enc : TypeId × Value → H) :
    ReturnsInHanded {} Try.checked os 3 .any (Rows.deltaViewsSpec.pre6 enc Try.prog Try.f3 Rows.deltaViewsRow.domain false) (Rows.deltaViewsSpec.post enc Try.prog Try.f3 false true false false) := by
  refine law_lifted (C := Try.checked) (tb := 4) own_ started (by kernel_rfl) Try.func3
    (ChangeSpec.witness6 (enc := enc) (C := Try.checked) false ⟨#[], #[.slice none 0 0, .int .i64 0, .slice none 0 0], []⟩ 8 (by kernel_rfl) (by kernel_rfl) (by kernel_rfl) (by kernel_rfl))
    rfl rfl Try.underlying4 laidOut_ (by kernel_rfl) (fun ds h => by match ds, h with | [_, _, _], _ => rfl) ?_
  intro W base args ds p hval0 hA0 _ hsz0
  have hval : ∀ (j : Nat) t v, Try.f3.params[j]? = some t → args[j]? = some v → Value.okWide Try.prog W .any base t v := hval0
  have hA : DataW.TrodAll enc Try.prog W 0 (fun _ => true) true Try.f3.params.toList args.toList ds p := hA0
  have hsz : (DataW.weightsEach Try.prog Try.f3.params.toList ds).all (· ≤ reachBytes) = true := hsz0
  clear hval0 hA0 hsz0
  rw [Try.params3] at hA hval hsz
  obtain ⟨v0, v1, v2, d0, d1, d2, p0, p1, p2, rfl, rfl, rfl, h0, h1, h2⟩ := trodAll_three hA
  obtain ⟨A0, n0, c0, xs0, rfl, r0, b0⟩ := arg_slice ops_exts Try.underlying22 (hval 0 _ v0 rfl rfl) h0 (weight_at hsz (j := 0) rfl rfl)
  obtain ⟨z1, rfl, hz1⟩ := arg_int _ _ Try.underlying3 (hval 1 _ v1 rfl rfl) h1 wf_i64
  obtain ⟨A2, n2, c2, xs2, rfl, r2, b2⟩ := arg_slice Blo.ops_ns Try.underlying23 (hval 2 _ v2 rfl rfl) h2 (weight_at hsz (j := 2) rfl rfl)
  obtain ⟨q1, q2⟩ := esU r0
  obtain ⟨p1, p2⟩ := nsU r2
  exact deltaViews_walk W A0 n0 c0 _ q1 q2 z1 hz1 A2 n2 c2 _ p1 p2

/-- DeltaViews, for every input: the statement as it was given. -/
theorem deltaViews_holds : Rows.DeltaViewsSaid :=
  OpenClaim.holds_of_wide 3 Try.f3 rfl rfl rfl rfl rfl rfl rfl ⟨rfl, rfl, rfl, rfl, rfl⟩ rfl rfl rfl rfl rfl (by kernel_rfl) Try.func3 (by kernel_rfl)
    (of_decide_eq_true (by kernel_rfl)) (by unfold Func.isWrapper; first | (rw [if_pos (by decide +kernel)]; kernel_rfl) | (rw [if_neg (by decide +kernel)]; exact ⟨rfl, rfl⟩))
    (fun os started H enc _ => deltaViews_lifted os started H enc)
end Go.Proofs.Ytfdfjnepfgabaaa
