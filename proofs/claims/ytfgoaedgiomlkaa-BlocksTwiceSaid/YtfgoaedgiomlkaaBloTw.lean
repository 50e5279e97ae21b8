/- Proves BlocksTwice of layer 8 (blocks), for every input, with no condition: ops done twice are as done once; told shortly twice they are the same. -/
import Derived.Test.YtfgoaedgiomlkaaBloW
set_option linter.all false
namespace Go.Proofs.Ytfgoaedgiomlkaa
open Go.ChangeShapes Go.WideShapes Go.ChangeAt Go.RowKit
open Blo

set_option maxRecDepth 100000 in
set_option maxHeartbeats 4000000 in
theorem blocksTwice_walk (w : World) (A : Option Addr) (n c : Nat) (v : List Nat) (hv : Ns w A n v) (hA : A = none → n = 0 ∧ c = 0) (hnc : n ≤ c) (hc : c ≤ 9223372036854775807) (B : Option Addr) (k d : Nat) (l : List BOp) (hl : Opl w B k l) (hk : k ≤ 9223372036854775807) :
    Calls Try.prog 7 #[.slice A n c, .slice B k d] w fun e w' => e = .returned (.bool true) ∧ Below w.heap.size w w' := by
  have Hlen := Lib.hid hv.len
  have hni : I64 (n : Int) := by unfold I64; omega
  by_cases h0 : apE n l = 0
  · obtain ⟨hm, hr⟩ := apE_ok h0
    have hn := many_nat hm
    obtain ⟨x, hx⟩ : ∃ x, apL v l = x := ⟨_, rfl⟩
    have hxv : x = vol n (l.foldl doF (fun_ v)) := by
      rw [← hx, Hlen.out]
      rw [Hlen.out] at hm hr
      exact apL_ok hm hr
    have hxl : n = x.length := by rw [hxv, vol_length]
    have hx2 : apL x l = x := by
      have h1 : manyB x.length = true := by rw [← hxl]; exact hm
      have h2 : l.all (·.right (x.length : Int)) = true := by rw [← hxl]; exact hr
      rw [apL_ok h1 h2, ← hxl]
      conv => lhs; rw [hxv]
      rw [vol_again, ← hxv]
    obtain ⟨s, hs⟩ : ∃ s, shortS (fun i => told l (i : Int)) n = s := ⟨_, rfl⟩
    have hs1 : sqL n l = s := by rw [sqL_of hm hr, hs]
    have hsr : s.all (·.right (n : Int)) = true := by rw [← hs]; exact short_right hm
    have hs2 : sqL n s = s := by rw [sqL_of hm hsr, ← hs, short_twice]
    have H0 := Lib.hid h0
    have Hx := Lib.hid hx
    have Hx2 := Lib.hid hx2
    have Hxl := Lib.hid hxl
    have Hs1 := Lib.hid hs1
    have Hs2 := Lib.hid hs2
    have He1 := Lib.hid (sqE_of hm hr)
    have He2 := Lib.hid (sqE_of hm hsr)
    clear h0 hx hx2 hxl hs1 hs2 hs hxv hm hr hsr
    go_enter Try.func7, Try.ntmps7
    go_wp2_with fail
    refine (apply_ w A n c v hv hA hnc hc B k d l hl hk).mono ?_
    rw [H0.out, Hx.out]
    rintro e w1 ⟨A1, m1, c1, rfl, g1, hb1⟩
    obtain ⟨z1, z2, z3⟩ := g1.bounds
    have hm1 : m1 = n := by have := g1.ns.len; have := Hxl.out; omega
    subst hm1
    go_wp2_with fail
    refine (apply_ w1 A1 m1 c1 x g1.ns z3 z1 z2 B k d l (hl.below hb1) hk).mono ?_
    rw [H0.out, Hx2.out]
    rintro e w2 ⟨A2, m2, c2, rfl, g2, hb2⟩
    have g1' := g1.keep hb2
    have hB2 := below_step hb1 hb2 (Nat.le_refl _)
    clear g1 hb1 hb2
    go_wp2_with fail
    refine (squash w2 m1 B k d l hni (hl.below hB2) hk).mono ?_
    rw [He1.out, Hs1.out]
    rintro e w3 ⟨A3, m3, c3, rfl, g3, hb3⟩
    have g1 := g1'.keep hb3
    have g2' := g2.keep hb3
    have hB3 := below_step hB2 hb3 (Nat.le_refl _)
    have y3 := g3.bounds
    clear g1' g2 hB2 hb3
    go_wp2_with fail
    refine (squash w3 m1 A3 m3 c3 s hni g3.os (by omega)).mono ?_
    rw [He2.out, Hs2.out]
    rintro e w4 ⟨A4, m4, c4, rfl, g4, hb4⟩
    have p1 := (g1.keep hb4).ns
    have p2 := (g2'.keep hb4).ns
    have p3 := (g3.keep hb4).os
    have p4 := g4.os
    have hB4 := below_step hB3 hb4 (Nat.le_refl _)
    clear g1 g2' g3 g4 hB3 hb4
    go_wp2_with fail
    refine (words_ w4 A1 A2 m1 m2 c1 c2 x x p1 p2 (by omega)).mono ?_
    rw [decide_eq_true (rfl : x = x)]
    rintro e w5 ⟨rfl, j5, rfl⟩
    have p3' := p3.drewN j5
    have p4' := p4.drewN j5
    clear p1 p2 p3 p4
    go_wp2_with fail
    refine (same_ _ A3 A4 m3 m4 c3 c4 s p3' p4' (by omega)).mono ?_
    rintro e w6 ⟨rfl, j6, rfl⟩
    go_wp2_with fail
    refine (alive_ _).mono ?_
    rintro e w7 ⟨rfl, hb7⟩
    go_wp2
    go_ret
    exact ⟨rfl, below_step hB4 (⟨hb7.os, hb7.tape, hb7.output, hb7.size, hb7.block⟩ : Below w4.heap.size w4 w7) (Nat.le_refl _)⟩
  · obtain ⟨x, hx⟩ : ∃ x, apL v l = x := ⟨_, rfl⟩
    obtain ⟨z, hz⟩ : ∃ z, apE n l = z := ⟨_, rfl⟩
    rw [hz] at h0
    have Hx := Lib.hid hx
    have Hz := Lib.hid hz
    clear hx hz
    go_enter Try.func7, Try.ntmps7
    go_wp2_with fail
    refine (apply_ w A n c v hv hA hnc hc B k d l hl hk).mono ?_
    rw [Hz.out, Hx.out]
    rintro e w1 ⟨A1, m1, c1, rfl, g1, hb1⟩
    go_wp2_with fail
    refine (alive_ _).mono ?_
    rintro e w7 ⟨rfl, hb7⟩
    go_wp2
    go_ret
    exact ⟨rfl, below_step hb1 hb7 (Nat.le_refl _)⟩

set_option maxRecDepth 100000 in
theorem blocksTwice_lifted (os : Os) (started : os.Started) (H : Type) (enc : TypeId × Value → H) :
    ReturnsInHanded {} Try.checked os 7 .any (Rows.blocksTwiceSpec.pre6 enc Try.prog Try.f7 Rows.blocksTwiceRow.domain false) (Rows.blocksTwiceSpec.post enc Try.prog Try.f7 false true false false) := by
  refine law_lifted (C := Try.checked) (tb := 4) own_ started (by kernel_rfl) Try.func7
    (ChangeSpec.witness6 (enc := enc) (C := Try.checked) false ⟨#[], #[.slice none 0 0, .slice none 0 0], []⟩ 8 (by kernel_rfl) (by kernel_rfl) (by kernel_rfl) (by kernel_rfl))
    rfl rfl Try.underlying4 laidOut_ (by kernel_rfl) (fun ds h => by match ds, h with | [_, _], _ => rfl) ?_
  intro W base args ds p hval0 hA0 _ hsz0
  have hval : ∀ (j : Nat) t v, Try.f7.params[j]? = some t → args[j]? = some v → Value.okWide Try.prog W .any base t v := hval0
  have hA : DataW.TrodAll enc Try.prog W 0 (fun _ => true) true Try.f7.params.toList args.toList ds p := hA0
  have hsz : (DataW.weightsEach Try.prog Try.f7.params.toList ds).all (· ≤ reachBytes) = true := hsz0
  clear hval0 hA0 hsz0
  rw [Try.params7] at hA hval hsz
  obtain ⟨v0, v1, d0, d1, p0, p1, rfl, rfl, rfl, h0, h1⟩ := trodAll_two hA
  obtain ⟨A0, n0, c0, xs0, rfl, r0, b0⟩ := arg_slice ops_ns Try.underlying23 (hval 0 _ v0 rfl rfl) h0 (weight_at hsz (j := 0) rfl rfl)
  obtain ⟨A1, n1, c1, xs1, rfl, r1, b1⟩ := arg_slice ops_ops Try.underlying22 (hval 1 _ v1 rfl rfl) h1 (weight_at hsz (j := 1) rfl rfl)
  obtain ⟨q1, q2, q3, q4, q5⟩ := ns_of r0
  obtain ⟨os1, hn1, hc1⟩ := ops_os r1
  exact blocksTwice_walk W A0 n0 c0 _ q1 q3 q2 q4 A1 n1 c1 _ os1 (by omega)

/-- BlocksTwice, for every input: the statement as it was given. -/
theorem blocksTwice_holds : Rows.BlocksTwiceSaid :=
  OpenClaim.holds_of_wide 7 Try.f7 rfl rfl rfl rfl rfl rfl rfl ⟨rfl, rfl, rfl, rfl, rfl⟩ rfl rfl rfl rfl rfl (by kernel_rfl) Try.func7 (by kernel_rfl)
    (of_decide_eq_true (by kernel_rfl)) (by unfold Func.isWrapper; first | (rw [if_pos (by decide +kernel)]; kernel_rfl) | (rw [if_neg (by decide +kernel)]; exact ⟨rfl, rfl⟩))
    (fun os started H enc _ => blocksTwice_lifted os started H enc)
end Go.Proofs.Ytfgoaedgiomlkaa
