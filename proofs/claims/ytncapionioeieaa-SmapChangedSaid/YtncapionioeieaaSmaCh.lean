/- Proves SmapChanged of layer 13 (smap), for every input, with no condition: the blocks that have another node in another map are the document's, or refused. -/
import Derived.Test.YtncapionioeieaaSmaAr
import Derived.Test.YtncapionioeieaaSmaU
set_option linter.all false
namespace Go.Proofs.Ytncapionioeieaa
open Go.ChangeShapes Go.WideShapes Go.ChangeAt Go.RowKit
namespace Sma

section
variable (w : World)
set_option maxRecDepth 100000 in
set_option maxHeartbeats 4000000 in
theorem changedS_walk (a b : Mp) (A B : Option Addr) (k j c d : Nat) (ha : Mr w a A k c) (hb : Mr w b B j d) : Calls Try.prog 5 #[mv a A k c, mv b B j d] w fun e w' => e = .returned (.bool true) ∧ Below w.heap.size w w' := by
  have hbx : Below w.heap.size w ((w.alloc (rmo a A k c)).alloc (rmo b B j d)) := ((Below.refl w.heap.size w).alloc (Nat.le_refl _) _).alloc (by simp) _
  have hk1 := (Blk.new w 25 #[.int .i64 a.v, .int .i64 a.n, .slice A k c] rfl).alloc (rmo b B j d)
  have hk2 := Blk.new (w.alloc (rmo a A k c)) 25 #[.int .i64 b.v, .int .i64 b.n, .slice B j d] (g := w.heap.size + 1) (by simp)
  have hma := ha.below hbx
  have hmb := hb.below hbx
  simp only [mv]
  clear ha hb
  obtain ⟨r, hr⟩ : ∃ r, changedA a b = r := ⟨_, rfl⟩
  have Hr := Lib.hid hr
  clear hr
  go_enter Try.func5, Try.ntmps5
  go_wp2_with fail
  generalize ((w.alloc (rmo a A k c)).alloc (rmo b B j d)) = w1 at *
  have t1 : w1.cell? ⟨w.heap.size, 0, none⟩ = some (.int .i64 a.v) ∧ w1.cell? ⟨w.heap.size, 1, none⟩ = some (.int .i64 a.n) ∧ w1.cell? ⟨w.heap.size, 2, none⟩ = some (.slice A k c) := ⟨(cells3 hk1).1, (cells3 hk1).2.1, (cells3 hk1).2.2.1⟩
  have t2 : w1.cell? ⟨w.heap.size + 1, 0, none⟩ = some (.int .i64 b.v) ∧ w1.cell? ⟨w.heap.size + 1, 1, none⟩ = some (.int .i64 b.n) ∧ w1.cell? ⟨w.heap.size + 1, 2, none⟩ = some (.slice B j d) := ⟨(cells3 hk2).1, (cells3 hk2).2.1, (cells3 hk2).2.2.1⟩
  have hz0 := below_drew0 w1
  go_region_held3 (fun w' => (w'.cell? ⟨w.heap.size, 0, none⟩ = some (.int .i64 a.v) ∧ w'.cell? ⟨w.heap.size, 1, none⟩ = some (.int .i64 a.n) ∧ w'.cell? ⟨w.heap.size, 2, none⟩ = some (.slice A k c)) ∧ (w'.cell? ⟨w.heap.size + 1, 0, none⟩ = some (.int .i64 b.v) ∧ w'.cell? ⟨w.heap.size + 1, 1, none⟩ = some (.int .i64 b.n) ∧ w'.cell? ⟨w.heap.size + 1, 2, none⟩ = some (.slice B j d)))
    (first | exact ⟨t1, t2⟩ | exact ⟨cells3_keep t1 hz3, cells3_keep t2 hz3⟩ | exact ⟨cells3_keep t1 hz2, cells3_keep t2 hz2⟩ | exact ⟨cells3_keep t1 hz1, cells3_keep t2 hz1⟩ | go_keep)
    (first
      | (go_at_call 27
         refine (changed_ _ a b A B k j c d (hma.below hz2) (hmb.below hz2)).mono ?_
         rw [Hr.out]
         rintro e q3 ⟨A3, k3, c3, rfl, ps3, hk3, hq⟩
         have hz3 : Below w1.heap.size w1 q3 := below_step hz2 hq (Nat.le_refl _))
      | (go_at_call 15
         have hprev := hz1
         refine (theirs_ _ b B j d).mono ?_
         rintro e q2 ⟨rfl, hq⟩
         have hz2 : Below w1.heap.size w1 q2 := below_step hz1 hq (Nat.le_refl _)
         simp only [mv])
      | (go_at_call 15
         refine (theirs_ _ a A k c).mono ?_
         rintro e q1 ⟨rfl, hq⟩
         have hz1 : Below w1.heap.size w1 q1 := below_step hz0 hq (Nat.le_refl _)
         simp only [mv]))
  obtain ⟨n0, n1, n2, -, -, -⟩ := cells3 (hk1.keep hz3)
  obtain ⟨m0, m1, m2, -, -, -⟩ := cells3 (hk2.keep hz3)
  clear t1 t2 hz0 hz1 hz2
  go_wp2_with fail
  refine (rchanged_ _ a b A B k j c d (hma.below hz3) (hmb.below hz3)).mono ?_
  rw [Hr.out]
  rintro e q4 ⟨A4, k4, c4, rfl, ps4, hk4, hq4⟩
  have ps3' := ps3.below hq4
  have hB4 := below_step (below_step hbx hz3 (Nat.le_refl _)) hq4 (Nat.le_refl _)
  clear n0 n1 n2 m0 m1 m2
  go_wp2_with fail
  refine (pieces_ _ A3 A4 k3 k4 c3 c4 r.1 r.1 ps3' ps4 hk3 hk4).mono ?_
  rw [sameB_refl]
  rintro e q5 ⟨jj, rfl, rfl⟩
  go_wp2_with fail
  refine (alive_ _).mono ?_
  rintro e q6 ⟨rfl, hq6⟩
  go_wp2
  go_ret
  exact ⟨rfl, below_step (below_drewN hB4 jj) hq6 (Nat.le_refl _)⟩
end
end Sma
open Sma

set_option maxRecDepth 100000 in
theorem smapChanged_lifted (os : Os) (started : os.Started) (H : Type) (enc : TypeId × Value → H) :
    ReturnsInHanded {} Try.checked os 5 .any (Rows.smapChangedSpec.pre6 enc Try.prog Try.f5 Rows.smapChangedRow.domain false) (Rows.smapChangedSpec.post enc Try.prog Try.f5 false true false false) := by
  refine law_lifted (C := Try.checked) (tb := 4) own_ started (by kernel_rfl) Try.func5
    (ChangeSpec.witness6 (enc := enc) (C := Try.checked) false ⟨#[], #[.agg #[.int .i64 0, .int .i64 0, .slice none 0 0], .agg #[.int .i64 0, .int .i64 0, .slice none 0 0]], []⟩ 8 (by kernel_rfl) (by kernel_rfl) (by kernel_rfl) (by kernel_rfl))
    rfl rfl Try.underlying4 laidOut_ (by kernel_rfl) (fun ds h => by match ds, h with | [_, _], _ => rfl) ?_
  intro W base args ds p hval0 hA0 _ hsz0
  have hval : ∀ (j : Nat) t v, Try.f5.params[j]? = some t → args[j]? = some v → Value.okWide Try.prog W .any base t v := hval0
  have hA : DataW.TrodAll enc Try.prog W 0 (fun _ => true) true Try.f5.params.toList args.toList ds p := hA0
  have hsz : (DataW.weightsEach Try.prog Try.f5.params.toList ds).all (· ≤ reachBytes) = true := hsz0
  clear hval0 hA0 hsz0
  rw [Try.params5] at hA hval hsz
  obtain ⟨v0, v1, d0, d1, p0, p1, rfl, rfl, rfl, h0, h1⟩ := trodAll_two hA
  obtain ⟨cs0, a0, rfl, r0, b0⟩ := arg_struct ops_mp Try.underlying25 (hval 0 _ v0 rfl rfl) h0 (weight_at hsz (j := 0) rfl rfl)
  obtain ⟨cs1, a1, rfl, r1, b1⟩ := arg_struct ops_mp Try.underlying25 (hval 1 _ v1 rfl rfl) h1 (weight_at hsz (j := 1) rfl rfl)
  exact by
    obtain ⟨A0, k0, c0, rfl, hm0, -⟩ := mp_arr r0
    obtain ⟨A1, k1, c1, rfl, hm1, -⟩ := mp_arr r1
    exact changedS_walk W (toMp a0) (toMp a1) A0 A1 k0 k1 c0 c1 hm0 hm1

/-- SmapChanged, for every input: the statement as it was given. -/
theorem smapChanged_holds : Rows.SmapChangedSaid :=
  OpenClaim.holds_of_wide 5 Try.f5 rfl rfl rfl rfl rfl rfl rfl ⟨rfl, rfl, rfl, rfl, rfl⟩ rfl rfl rfl rfl rfl (by kernel_rfl) Try.func5 (by kernel_rfl)
    (of_decide_eq_true (by kernel_rfl)) (by unfold Func.isWrapper; first | (rw [if_pos (by decide +kernel)]; kernel_rfl) | (rw [if_neg (by decide +kernel)]; exact ⟨rfl, rfl⟩))
    (fun os started H enc _ => smapChanged_lifted os started H enc)
end Go.Proofs.Ytncapionioeieaa
