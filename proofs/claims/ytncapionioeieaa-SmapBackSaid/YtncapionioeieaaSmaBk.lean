/- Proves SmapBack of layer 13 (smap), for every input, with no condition: Merge undoes Split. -/
import Derived.Test.YtncapionioeieaaSmaAr
import Derived.Test.YtncapionioeieaaSmaG
set_option linter.all false
namespace Go.Proofs.Ytncapionioeieaa
open Go.ChangeShapes Go.WideShapes Go.ChangeAt Go.RowKit
namespace Sma

section
variable (w : World)
set_option maxRecDepth 100000 in
set_option maxHeartbeats 2000000 in
theorem back_walk (m : Mp) (A : Option Addr) (k c : Nat) (h : Mr w m A k c) (a : Int) (ha : I64 a) : Calls Try.prog 8 #[mv m A k c, .int .i64 a] w fun e w' => e = .returned (.bool true) ∧ Below w.heap.size w w' := by
  have hbx := (Below.refl w.heap.size w).alloc (Nat.le_refl _) (rmo m A k c)
  have hm1 := h.below hbx
  have hbk := Blk.new w 25 #[.int .i64 m.v, .int .i64 m.n, .slice A k c] rfl
  have hk := Nat.le_trans h.le h.cap
  have hv := h.v
  have hn := h.n
  unfold I64 at hv hn
  simp only [mv]
  clear h
  obtain ⟨r, hr⟩ : ∃ r, splitA m a = r := ⟨_, rfl⟩
  have Hr := Lib.hid hr
  clear hr
  go_enter Try.func8, Try.ntmps8
  go_wp2_with fail
  generalize (w.alloc (rmo m A k c)) = w1 at *
  refine (theirs_ _ m A k c).mono ?_
  rintro e w2 ⟨rfl, hb2⟩
  have hm2 := hm1.below hb2
  have hbk2 := hbk.keep hb2
  have hB2 := below_step hbx hb2 (by omega)
  clear hm1 hbk hb2
  simp only [mv]
  go_wp2_with fail
  refine (split_ _ m A k c hm2 a ha).mono ?_
  rw [Hr.out]
  rintro e w3 ⟨A3, k3, c3, rfl, g3, hb3⟩
  have hal := (Below.refl w3.heap.size w3).alloc (Nat.le_refl _) (mo r.1 A3 k3 c3)
  have hm4 := (hm2.below hb3).below hal
  have hbk4 := (hbk2.keep hb3).keep hal
  have hB4 := below_step (below_step hB2 hb3 (by omega)) hal (by omega)
  have g4 := g3.mr.below hal
  have ha4 := Blk.new w3 26 #[.int .i64 r.1.v, .int .i64 r.1.n, .slice A3 k3 c3] rfl
  obtain ⟨rv1, rv2⟩ := g4.v
  obtain ⟨rn1, rn2⟩ := g4.n
  clear hm2 hbk2 hB2 g3 hb3 hal
  simp only [mv]
  by_cases he : r.2 = 0
  · have t0 : (r.2 != 0) = false := by simp [he]
    by_cases hf : 1099511627776 ≤ r.1.v
    · go_wp2_with fail
      generalize (w3.alloc (mo r.1 A3 k3 c3)) = w4 at *
      refine (alive_ _).mono ?_
      rintro e w5 ⟨rfl, hb5⟩
      go_wp2
      go_ret
      exact ⟨rfl, below_step hB4 hb5 (by omega)⟩
    · have hs : splitA m a = (r.1, 0) := by rw [Hr.out, ← he]
      obtain ⟨hrm, h1a, h2a, -⟩ := split_ok hs
      obtain ⟨y, hy, hyp, hyv⟩ := split_merge hs (by omega)
      have Hy := Lib.hid hy
      have Hyp := Lib.hid hyp
      have hmv := (right_is hrm).1
      have hw : IntKind.i64.wrap (m.v + 2) = m.v + 2 := by rw [IntKind.wrap_i64]; omega
      have t9 : (y.v == m.v + 2) = true := by simp [hyv]
      have Hyv := Lib.hid hyv
      clear hy hyp hs hyv he
      go_wp2_with fail
      generalize (w3.alloc (mo r.1 A3 k3 c3)) = w4 at *
      refine (merge_ _ r.1 A3 k3 c3 g4 a ha).mono ?_
      rw [Hy.out]
      rintro e w5 ⟨A5, k5, c5, rfl, g5, hb5⟩
      have hal := (Below.refl w5.heap.size w5).alloc (Nat.le_refl _) (mo y A5 k5 c5)
      have hm6 := (hm4.below hb5).below hal
      have hbk6 := (hbk4.keep hb5).keep hal
      have hB6 := below_step (below_step hB4 hb5 (by omega)) hal (by omega)
      have g6 := g5.mr.below hal
      have hy6 := Blk.new w5 26 #[.int .i64 y.v, .int .i64 y.n, .slice A5 k5 c5] rfl
      obtain ⟨yv1, yv2⟩ := g6.v
      have hk5 := Nat.le_trans g6.le g6.cap
      obtain ⟨x0, x1, x2, -, -, -⟩ := cells3 hbk6
      have hps := g6.ps
      rw [Hyp.out] at hps
      clear hm4 hbk4 hB4 g5 hb5 hal g4 ha4
      simp only [mv]
      go_wp2_with fail
      generalize (w5.alloc (mo y A5 k5 c5)) = w6 at *
      refine (pieces_ _ A5 A k5 k c5 c m.ps m.ps hps hm6.ps hk5 hk).mono ?_
      rw [sameB_refl]
      rintro e w7 ⟨j, rfl, rfl⟩
      obtain ⟨y0, y1, y2, -, -, -⟩ := cells3 hy6
      clear hy6 hbk6
      go_wp2_with fail
      refine (alive_ _).mono ?_
      rintro e w8 ⟨rfl, hb8⟩
      go_wp2
      go_ret
      exact ⟨rfl, below_step (below_drewN hB6 j) hb8 (Nat.le_refl _)⟩
  · have t0 : (r.2 != 0) = true := by simp [he]
    clear he
    go_wp2_with fail
    generalize (w3.alloc (mo r.1 A3 k3 c3)) = w4 at *
    refine (alive_ _).mono ?_
    rintro e w5 ⟨rfl, hb5⟩
    go_wp2
    go_ret
    exact ⟨rfl, below_step hB4 hb5 (by omega)⟩
end
end Sma
open Sma

set_option maxRecDepth 100000 in
theorem smapBack_lifted (os : Os) (started : os.Started) (H : Type) (enc : TypeId × Value → H) :
    ReturnsInHanded {} Try.checked os 8 .any (Rows.smapBackSpec.pre6 enc Try.prog Try.f8 Rows.smapBackRow.domain false) (Rows.smapBackSpec.post enc Try.prog Try.f8 false true false false) := by
  refine law_lifted (C := Try.checked) (tb := 4) own_ started (by kernel_rfl) Try.func8
    (ChangeSpec.witness6 (enc := enc) (C := Try.checked) false ⟨#[], #[.agg #[.int .i64 0, .int .i64 0, .slice none 0 0], .int .i64 0], []⟩ 8 (by kernel_rfl) (by kernel_rfl) (by kernel_rfl) (by kernel_rfl))
    rfl rfl Try.underlying4 laidOut_ (by kernel_rfl) (fun ds h => by match ds, h with | [_, _], _ => rfl) ?_
  intro W base args ds p hval0 hA0 _ hsz0
  have hval : ∀ (j : Nat) t v, Try.f8.params[j]? = some t → args[j]? = some v → Value.okWide Try.prog W .any base t v := hval0
  have hA : DataW.TrodAll enc Try.prog W 0 (fun _ => true) true Try.f8.params.toList args.toList ds p := hA0
  have hsz : (DataW.weightsEach Try.prog Try.f8.params.toList ds).all (· ≤ reachBytes) = true := hsz0
  clear hval0 hA0 hsz0
  rw [Try.params8] at hA hval hsz
  obtain ⟨v0, v1, d0, d1, p0, p1, rfl, rfl, rfl, h0, h1⟩ := trodAll_two hA
  obtain ⟨cs0, a0, rfl, r0, b0⟩ := arg_struct ops_mp Try.underlying25 (hval 0 _ v0 rfl rfl) h0 (weight_at hsz (j := 0) rfl rfl)
  obtain ⟨z1, rfl, hz1⟩ := arg_int _ _ Try.underlying3 (hval 1 _ v1 rfl rfl) h1 wf_i64
  exact by
    obtain ⟨A0, k0, c0, rfl, hm, -⟩ := mp_arr r0
    exact back_walk W (toMp a0) A0 k0 c0 hm z1 hz1

/-- SmapBack, for every input: the statement as it was given. -/
theorem smapBack_holds : Rows.SmapBackSaid :=
  OpenClaim.holds_of_wide 8 Try.f8 rfl rfl rfl rfl rfl rfl rfl ⟨rfl, rfl, rfl, rfl, rfl⟩ rfl rfl rfl rfl rfl (by kernel_rfl) Try.func8 (by kernel_rfl)
    (of_decide_eq_true (by kernel_rfl)) (by unfold Func.isWrapper; first | (rw [if_pos (by decide +kernel)]; kernel_rfl) | (rw [if_neg (by decide +kernel)]; exact ⟨rfl, rfl⟩))
    (fun os started H enc _ => smapBack_lifted os started H enc)
end Go.Proofs.Ytncapionioeieaa
