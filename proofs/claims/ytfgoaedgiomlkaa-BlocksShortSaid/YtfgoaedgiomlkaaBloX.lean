/- Proves BlocksShort of layer 8 (blocks), for every input, with no condition: any ops told shortly, and what is unlike in any two volumes, are the document's, or refused. -/
import Derived.Test.YtfgoaedgiomlkaaBloW
set_option linter.all false
namespace Go.Proofs.Ytfgoaedgiomlkaa
open Go.ChangeShapes Go.WideShapes Go.ChangeAt Go.RowKit
open Blo

set_option maxRecDepth 100000 in
set_option maxHeartbeats 4000000 in
theorem blocksShort_walk (w : World) (n : Int) (hn : I64 n) (B : Option Addr) (k d : Nat) (l : List BOp) (hl : Opl w B k l) (hk : k ≤ 9223372036854775807) (A1 A2 : Option Addr) (n1 c1 n2 c2 : Nat) (a b : List Nat) (ha : Ns w A1 n1 a) (hb : Ns w A2 n2 b)
    (h1 : n1 ≤ c1) (h1m : c1 ≤ 9223372036854775807) (h2 : n2 ≤ c2) (h2m : c2 ≤ 9223372036854775807) :
    Calls Try.prog 3 #[.int .i64 n, .slice B k d, .agg #[.slice A1 n1 c1, .slice A2 n2 c2]] w fun e w' => e = .returned (.bool true) ∧ Below w.heap.size w w' := by
  obtain ⟨e1, he1⟩ : ∃ z, sqE n l = z := ⟨_, rfl⟩
  obtain ⟨l1, hl1⟩ : ∃ z, sqL n l = z := ⟨_, rfl⟩
  obtain ⟨e2, he2⟩ : ∃ z, dfE a b = z := ⟨_, rfl⟩
  obtain ⟨l2, hl2⟩ : ∃ z, dfL a b = z := ⟨_, rfl⟩
  have He1 := Lib.hid he1
  have Hl1 := Lib.hid hl1
  have He2 := Lib.hid he2
  have Hl2 := Lib.hid hl2
  clear he1 hl1 he2 hl2
  have hba : Below w.heap.size w (w.alloc (.cells #[.slice A1 n1 c1, .slice A2 n2 c2] 24)) := (Below.refl _ _).alloc (Nat.le_refl _) _
  have hlx := hl.below hba
  have hax := ha.below hba
  have hbx := hb.below hba
  clear hl ha hb
  go_enter Try.func3, Try.ntmps3
  go_wp2_with fail
  go_quiet (fail)
  have hB0 := below_drewN hba nq
  have hl0 := hlx.drewN nq
  have ha0 := hax.drewN nq
  have hb0 := hbx.drewN nq
  clear hba hlx hax hbx
  generalize (w.alloc (.cells #[.slice A1 n1 c1, .slice A2 n2 c2] 24)).drewN nq = w0 at *
  go_wp2_with fail
  refine (squash w0 n B k d l hn hl0 hk).mono ?_
  rw [He1.out, Hl1.out]
  rintro e w1 ⟨X1, m1, q1, rfl, g1, hb1⟩
  have hB1 := below_step hB0 hb1 (Nat.le_refl _)
  have hl1 := hl0.below hb1
  have ha1 := ha0.below hb1
  have hbb1 := hb0.below hb1
  clear hB0 hl0 ha0 hb0 hb1
  go_wp2_with fail
  refine (rsquash w1 n B k d l hn hl1 hk).mono ?_
  rw [He1.out, Hl1.out]
  rintro e w2 ⟨X2, m2, q2, rfl, g2, hb2⟩
  have hB2 := below_step hB1 hb2 (Nat.le_refl _)
  have ha2 := ha1.below hb2
  have hbb2 := hbb1.below hb2
  have g1' := g1.keep hb2
  clear hB1 hl1 ha1 hbb1 hb2 g1
  go_wp2_with fail
  refine (diff w2 A1 A2 n1 n2 c1 c2 a b ha2 hbb2 h1 h1m h2 h2m).mono ?_
  rw [He2.out, Hl2.out]
  rintro e w3 ⟨X3, m3, q3, rfl, g3, hb3⟩
  have hB3 := below_step hB2 hb3 (Nat.le_refl _)
  have ha3 := ha2.below hb3
  have hbb3 := hbb2.below hb3
  have g1 := g1'.keep hb3
  have g2' := g2.keep hb3
  clear hB2 ha2 hbb2 hb3 g1' g2
  go_wp2_with fail
  refine (rdiff w3 A1 A2 n1 n2 c1 c2 a b ha3 hbb3 h1 h1m h2 h2m).mono ?_
  rw [He2.out, Hl2.out]
  rintro e w4 ⟨X4, m4, q4, rfl, g4, hb4⟩
  have hB4 := below_step hB3 hb4 (Nat.le_refl _)
  have s1 := (g1.keep hb4).os
  have s2 := (g2'.keep hb4).os
  have s3 := (g3.keep hb4).os
  have s4 := g4.os
  have z1 : m1 ≤ 9223372036854775807 := by have := g1.bounds; omega
  have z3 : m3 ≤ 9223372036854775807 := by have := g3.bounds; omega
  clear hB3 ha3 hbb3 hb4 g1 g2' g3 g4
  go_wp2_with fail
  refine (same_ w4 X1 X2 m1 m2 q1 q2 l1 s1 s2 z1).mono ?_
  rintro e w5 ⟨rfl, j5, rfl⟩
  have s3' := s3.drewN j5
  have s4' := s4.drewN j5
  clear s1 s2 s3 s4
  go_wp2_with fail
  refine (same_ _ X3 X4 m3 m4 q3 q4 l2 s3' s4' z3).mono ?_
  rintro e w6 ⟨rfl, j6, rfl⟩
  go_wp2_with fail
  refine (alive_ _).mono ?_
  rintro e w7 ⟨rfl, hb7⟩
  go_wp2
  go_ret
  exact ⟨rfl, below_step hB4 (⟨hb7.os, hb7.tape, hb7.output, hb7.size, hb7.block⟩ : Below w4.heap.size w4 w7) (Nat.le_refl _)⟩
theorem two_is {w : World} {cs : Array Value} {v : List Nat × List Nat × Unit} (h : (Shp.agg (Shp.pair nsShp (Shp.pair nsShp Shp.unit))).R w cs.toList v) :
    ∃ A1 n1 c1 A2 n2 c2, cs = #[.slice A1 n1 c1, .slice A2 n2 c2] ∧ (Ns w A1 n1 v.1 ∧ n1 ≤ c1 ∧ c1 ≤ 9223372036854775807) ∧ (Ns w A2 n2 v.2.1 ∧ n2 ≤ c2 ∧ c2 ≤ 9223372036854775807) := by
  obtain ⟨k1, r1, hcs, hl1, h1, k2, r2, rfl, hl2, h2, h3⟩ := h
  have h3 : r2 = [] := h3
  subst h3
  have h1' := h1
  have h2' := h2
  obtain ⟨A1, c1, e1, _⟩ := h1
  obtain ⟨A2, c2, e2, _⟩ := h2
  subst e1 e2
  obtain ⟨a1, a2, a3, a4, a5⟩ := ns_of h1'
  obtain ⟨b1, b2, b3, b4, b5⟩ := ns_of h2'
  exact ⟨A1, _, c1, A2, _, c2, Array.toList_inj.1 (by rw [hcs]; rfl), ⟨a1, a2, a4⟩, ⟨b1, b2, b4⟩⟩
theorem ops_two : Opens Try.prog 24 (Shp.agg (Shp.pair nsShp (Shp.pair nsShp Shp.unit))) := opens_arr2 Try.underlying24 (by kernel_rfl) ops_ns

set_option maxRecDepth 100000 in
theorem blocksShort_lifted (os : Os) (started : os.Started) (H : Type) (enc : TypeId × Value → H) :
    ReturnsInHanded {} Try.checked os 3 .any (Rows.blocksShortSpec.pre6 enc Try.prog Try.f3 Rows.blocksShortRow.domain false) (Rows.blocksShortSpec.post enc Try.prog Try.f3 false true false false) := by
  refine law_lifted (C := Try.checked) (tb := 4) own_ started (by kernel_rfl) Try.func3
    (ChangeSpec.witness6 (enc := enc) (C := Try.checked) false ⟨#[], #[.int .i64 0, .slice none 0 0, .agg #[.slice none 0 0, .slice none 0 0]], []⟩ 8 (by kernel_rfl) (by kernel_rfl) (by kernel_rfl) (by kernel_rfl))
    rfl rfl Try.underlying4 laidOut_ (by kernel_rfl) (fun ds h => by match ds, h with | [_, _, _], _ => rfl) ?_
  intro W base args ds p hval0 hA0 _ hsz0
  have hval : ∀ (j : Nat) t v, Try.f3.params[j]? = some t → args[j]? = some v → Value.okWide Try.prog W .any base t v := hval0
  have hA : DataW.TrodAll enc Try.prog W 0 (fun _ => true) true Try.f3.params.toList args.toList ds p := hA0
  have hsz : (DataW.weightsEach Try.prog Try.f3.params.toList ds).all (· ≤ reachBytes) = true := hsz0
  clear hval0 hA0 hsz0
  rw [Try.params3] at hA hval hsz
  obtain ⟨v0, v1, v2, d0, d1, d2, p0, p1, p2, rfl, rfl, rfl, h0, h1, h2⟩ := trodAll_three hA
  obtain ⟨z0, rfl, hz0⟩ := arg_int _ _ Try.underlying3 (hval 0 _ v0 rfl rfl) h0 wf_i64
  obtain ⟨A1, n1, c1, xs1, rfl, r1, b1⟩ := arg_slice ops_ops Try.underlying22 (hval 1 _ v1 rfl rfl) h1 (weight_at hsz (j := 1) rfl rfl)
  obtain ⟨cs2, a2, rfl, r2, b2⟩ := arg_arr ops_two Try.underlying24 (hval 2 _ v2 rfl rfl) h2 (weight_at hsz (j := 2) rfl rfl)
  obtain ⟨os1, hn1, hc1⟩ := ops_os r1
  obtain ⟨A3, n3, c3, A4, n4, c4, rfl, ⟨q1, q2, q3⟩, ⟨q4, q5, q6⟩⟩ := two_is r2
  exact blocksShort_walk W z0 hz0 A1 n1 c1 _ os1 (by omega) A3 A4 n3 c3 n4 c4 _ _ q1 q4 q2 q3 q5 q6

/-- BlocksShort, for every input: the statement as it was given. -/
theorem blocksShort_holds : Rows.BlocksShortSaid :=
  OpenClaim.holds_of_wide 3 Try.f3 rfl rfl rfl rfl rfl rfl rfl ⟨rfl, rfl, rfl, rfl, rfl⟩ rfl rfl rfl rfl rfl (by kernel_rfl) Try.func3 (by kernel_rfl)
    (of_decide_eq_true (by kernel_rfl)) (by unfold Func.isWrapper; first | (rw [if_pos (by decide +kernel)]; kernel_rfl) | (rw [if_neg (by decide +kernel)]; exact ⟨rfl, rfl⟩))
    (fun os started H enc _ => blocksShort_lifted os started H enc)
end Go.Proofs.Ytfgoaedgiomlkaa
