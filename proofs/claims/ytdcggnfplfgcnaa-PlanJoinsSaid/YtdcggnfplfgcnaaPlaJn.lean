/- Proves PlanJoins of layer 14 (plan), for every input, with no condition: what any data are together is the document's, or refused. -/
import Derived.Test.YtdcggnfplfgcnaaPlaW
import Derived.Test.YtdcggnfplfgcnaaPlaS
import Derived.Deep.RegionHeld3
set_option linter.all false
namespace Go.Proofs.Ytdcggnfplfgcnaa
open Go.ChangeShapes Go.WideShapes Go.ChangeAt Go.RowKit
namespace Pla
open Blo (I64 Dat Sml FitB Opl GotN AnsN OpV opShp toOp)
open Sma (Pc Mp Mr mv)

abbrev ato (a n : Int) : Obj := .cells #[.int .i64 a, .int .i64 n] 28
section
variable (w : World)
set_option maxRecDepth 100000 in
set_option maxHeartbeats 2000000 in
theorem joins_walk (m : Mp) (A : Option Addr) (k c : Nat) (h : Mr w m A k c) (a n : Int) (ha : I64 a) (hn : I64 n) (B : Option Addr) (dn dc : Nat) (ds : List (List Nat)) (hd : Nss w B dn ds) (hdn : dn ≤ 9223372036854775807) :
    Calls Try.prog 4 #[mv m A k c, .agg #[.int .i64 a, .int .i64 n], .slice B dn dc] w fun e w' => e = .returned (.bool true) ∧ Below w.heap.size w w' := by
  have hb1 := (Below.refl w.heap.size w).alloc (Nat.le_refl _) (rmo m A k c)
  have hb2 : Below w.heap.size w ((w.alloc (rmo m A k c)).alloc (ato a n)) := hb1.alloc (by simp) _
  have hm2 := (h.alloc (rmo m A k c)).alloc (ato a n)
  have hd2 := hd.below hb2
  have k1 : Blk ((w.alloc (rmo m A k c)).alloc (ato a n)) w.heap.size 24 #[.int .i64 m.v, .int .i64 m.n, .slice A k c] := (Blk.new w _ _ rfl).alloc _
  have k2 : Blk ((w.alloc (rmo m A k c)).alloc (ato a n)) (w.heap.size + 1) 28 #[.int .i64 a, .int .i64 n] := Blk.new _ _ _ (by simp)
  have hS : ∀ w', Below ((w.alloc (rmo m A k c)).alloc (ato a n)).heap.size ((w.alloc (rmo m A k c)).alloc (ato a n)) w' → w'.cell? ⟨w.heap.size, 0, none⟩ = some (.int .i64 m.v) ∧ w'.cell? ⟨w.heap.size, 1, none⟩ = some (.int .i64 m.n) ∧ w'.cell? ⟨w.heap.size, 2, none⟩ = some (.slice A k c) ∧ w'.cell? ⟨w.heap.size + 1, 0, none⟩ = some (.int .i64 a) ∧ w'.cell? ⟨w.heap.size + 1, 1, none⟩ = some (.int .i64 n) := fun w' hb => ⟨(k1.keep hb).cell rfl, (k1.keep hb).cell rfl, (k1.keep hb).cell rfl, (k2.keep hb).cell rfl, (k2.keep hb).cell rfl⟩
  obtain ⟨E, hE⟩ : ∃ E, joinE m a n ds = E := ⟨_, rfl⟩
  obtain ⟨J, hJ⟩ : ∃ J, joinL m a n ds = J := ⟨_, rfl⟩
  have tE : (E == E) = true := by simp
  have HE := Lib.hid hE
  have HJ := Lib.hid hJ
  have S0 := hS _ (Below.refl _ _)
  clear h hd hb1 k1 k2 hE hJ
  go_enter Try.func4, Try.ntmps4
  go_wp2_with fail
  generalize ((w.alloc (rmo m A k c)).alloc (ato a n)) = w1 at *
  go_region_held3 (fun w' => w'.cell? ⟨w.heap.size, 0, none⟩ = some (.int .i64 m.v) ∧ w'.cell? ⟨w.heap.size, 1, none⟩ = some (.int .i64 m.n) ∧ w'.cell? ⟨w.heap.size, 2, none⟩ = some (.slice A k c) ∧ w'.cell? ⟨w.heap.size + 1, 0, none⟩ = some (.int .i64 a) ∧ w'.cell? ⟨w.heap.size + 1, 1, none⟩ = some (.int .i64 n)) (first | exact S0 | exact S2 | exact S3 | go_keep)
    (first
      | (go_at_call 11
         refine (theirs_ _ m A k c).mono ?_
         rintro e w2 ⟨rfl, hc2⟩
         have hbA : Below w1.heap.size w1 w2 := below_undrew hc2
         have S2 := hS w2 hbA
         have hmA := hm2.below hbA
         have hdA := hd2.below hbA)
      | (go_at_call 19
         refine (join_ _ m A k c hmA a n ha hn B dn dc ds hdA hdn).mono ?_
         rw [HE.out, HJ.out]
         rintro e w3 ⟨A3, n3, c3, rfl, hG3, hc3⟩
         have hbB : Below w1.heap.size w1 w3 := below_step hbA hc3 (Nat.le_refl _)
         have S3 := hS w3 hbB))
  obtain ⟨s0, s1, s2, s3, s4⟩ := S3
  have hm3 := hm2.below hbB
  have hd3 := hd2.below hbB
  clear S0 S2 hmA hdA hm2 hd2
  go_wp2_with fail
  refine (rjoin_ _ m A k c hm3 a n ha hn B dn dc ds hd3 hdn).mono ?_
  rw [HE.out, HJ.out]
  rintro e w4 ⟨A4, n4, c4, rfl, hG4, hc4⟩
  have hB4 := below_step (below_step hb2 hbB (Nat.le_refl _)) hc4 (Nat.le_refl _)
  have hG3' := hG3.keep hc4
  obtain ⟨x1, x2, -⟩ := hG3'.bounds
  have w0 := Blo.words_ w4 A3 A4 n3 n4 c3 c4 J J hG3'.ns hG4.ns (by omega)
  rw [decide_eq_true (rfl : J = J)] at w0
  clear hG3 hG4 hG3' hm3 hd3 s0 s1 s2 s3 s4
  go_wp2_with fail
  refine w0.mono ?_
  rintro e w5 ⟨rfl, q, rfl⟩
  go_wp2_with fail
  refine (alive_ _).mono ?_
  rintro e w6 ⟨rfl, hc6⟩
  go_wp2
  go_ret
  exact ⟨rfl, below_step (below_drewN hB4 _) hc6 (Nat.le_refl _)⟩
end
end Pla
open Pla

set_option maxRecDepth 100000 in
theorem planJoins_lifted (os : Os) (started : os.Started) (H : Type) (enc : TypeId × Value → H) :
    ReturnsInHanded {} Try.checked os 4 .any (Rows.planJoinsSpec.pre6 enc Try.prog Try.f4 Rows.planJoinsRow.domain false) (Rows.planJoinsSpec.post enc Try.prog Try.f4 false true false false) := by
  refine law_lifted (C := Try.checked) (tb := 4) own_ started (by kernel_rfl) Try.func4
    (ChangeSpec.witness6 (enc := enc) (C := Try.checked) false ⟨#[], #[.agg #[.int .i64 0, .int .i64 0, .slice none 0 0], .agg #[.int .i64 0, .int .i64 0], .slice none 0 0], []⟩ 8 (by kernel_rfl) (by kernel_rfl) (by kernel_rfl) (by kernel_rfl))
    rfl rfl Try.underlying4 laidOut_ (by kernel_rfl) (fun ds h => by match ds, h with | [_, _, _], _ => rfl) ?_
  intro W base args ds p hval0 hA0 _ hsz0
  have hval : ∀ (j : Nat) t v, Try.f4.params[j]? = some t → args[j]? = some v → Value.okWide Try.prog W .any base t v := hval0
  have hA : DataW.TrodAll enc Try.prog W 0 (fun _ => true) true Try.f4.params.toList args.toList ds p := hA0
  have hsz : (DataW.weightsEach Try.prog Try.f4.params.toList ds).all (· ≤ reachBytes) = true := hsz0
  clear hval0 hA0 hsz0
  rw [Try.params4] at hA hval hsz
  obtain ⟨v0, v1, v2, d0, d1, d2, p0, p1, p2, rfl, rfl, rfl, h0, h1, h2⟩ := trodAll_three hA
  obtain ⟨cs0, a0, rfl, r0, b0⟩ := arg_struct Sma.ops_mp Try.underlying24 (hval 0 _ v0 rfl rfl) h0 (weight_at hsz (j := 0) rfl rfl)
  obtain ⟨cs1, a1, rfl, r1, b1⟩ := arg_arr ops_two Try.underlying28 (hval 1 _ v1 rfl rfl) h1 (weight_at hsz (j := 1) rfl rfl)
  obtain ⟨A2, n2, c2, xs2, rfl, r2, b2⟩ := arg_slice ops_nss Try.underlying45 (hval 2 _ v2 rfl rfl) h2 (weight_at hsz (j := 2) rfl rfl)
  exact by
    obtain ⟨A0, k0, c0, rfl, hm, hcb⟩ := Sma.mp_arr r0
    obtain ⟨rfl, ha, hn⟩ := two_arr r1
    obtain ⟨hd, hnc, hc⟩ := nss_of r2
    exact joins_walk W (Sma.toMp a0) A0 k0 c0 hm _ _ ha hn A2 n2 c2 xs2 hd (by omega)

/-- PlanJoins, for every input: the statement as it was given. -/
theorem planJoins_holds : Rows.PlanJoinsSaid :=
  OpenClaim.holds_of_wide 4 Try.f4 rfl rfl rfl rfl rfl rfl rfl ⟨rfl, rfl, rfl, rfl, rfl⟩ rfl rfl rfl rfl rfl (by kernel_rfl) Try.func4 (by kernel_rfl)
    (of_decide_eq_true (by kernel_rfl)) (by unfold Func.isWrapper; first | (rw [if_pos (by decide +kernel)]; kernel_rfl) | (rw [if_neg (by decide +kernel)]; exact ⟨rfl, rfl⟩))
    (fun os started H enc _ => planJoins_lifted os started H enc)
end Go.Proofs.Ytdcggnfplfgcnaa
