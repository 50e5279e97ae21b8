/- Proves PlanCuts of layer 14 (plan), for every input, with no condition: the parts of any op, and of any read, by any map, are the document's, or refused. -/
import Derived.Test.YtdcggnfplfgcnaaPlaW
import Derived.Test.YtdcggnfplfgcnaaPlaL
import Derived.Test.YtdcggnfplfgcnaaPlaJ
import Derived.Deep.RegionHeld3
set_option linter.all false
namespace Go.Proofs.Ytdcggnfplfgcnaa
open Go.ChangeShapes Go.WideShapes Go.ChangeAt Go.RowKit
namespace Pla
open Blo (I64 Dat Sml FitB Opl GotN AnsN OpV opShp toOp)
open Sma (Pc Mp Mr mv)

abbrev ato3 (a n : Int) : Obj := .cells #[.int .i64 a, .int .i64 n] 28
theorem ops_16 {m : Mp} {o : BOp} : (opsL m o).length ≤ 16 := by
  unfold opsL
  split
  · rename_i hr
    split
    · exact Nat.le_trans (parts_len _ _ _ _) (right_nd hr).1
    · simp
  · simp
theorem reads_16c {m : Mp} {a n : Int} : (readsL m a n).length ≤ 16 := by
  unfold readsL
  split
  · rename_i hr
    split
    · exact Nat.le_trans (parts_len _ _ _ _) (right_nd hr).1
    · simp
  · simp
theorem got_16 {w : World} {B : Nat} {t : TypeId} {A : Option Addr} {n c : Nat} {L : List (Pt × Value)} {l : List Pt} (h : GotP w B t A n c L) (e : L.map Prod.fst = l) (hl : l.length ≤ 16) : n ≤ 16 := by
  have := h.pl.len
  rw [← e, List.length_map] at hl
  omega
section
variable (w : World)
set_option maxRecDepth 100000 in
set_option maxHeartbeats 4000000 in
theorem cuts_walk (m : Mp) (A : Option Addr) (k c : Nat) (h : Mr w m A k c) (o : BOp) (X : Option Addr) (mm cc : Nat) (hd : Dat w o X mm cc) (a n : Int) (ha : I64 a) (hn : I64 n) :
    Calls Try.prog 3 #[mv m A k c, oa o (.slice X mm cc), .agg #[.int .i64 a, .int .i64 n]] w fun e w' => e = .returned (.bool true) ∧ Below w.heap.size w w' := by
  obtain ⟨w1, hw1⟩ : ∃ w1, ((w.alloc (rmo m A k c)).alloc (oo o (.slice X mm cc))).alloc (ato3 a n) = w1 := ⟨_, rfl⟩
  have hb1 : Below w.heap.size w w1 := by rw [← hw1]; exact (((Below.refl w.heap.size w).alloc (Nat.le_refl _) _).alloc (by simp) _).alloc (by simp; omega) _
  have hm1 : Mr w1 m A k c := h.below hb1
  have hd1 : Dat w1 o X mm cc := hd.below hb1
  have k1 : Blk w1 w.heap.size 24 #[.int .i64 m.v, .int .i64 m.n, .slice A k c] := by rw [← hw1]; exact ((Blk.new w _ _ rfl).alloc _).alloc _
  have k2 : Blk w1 (w.heap.size + 1) 27 #[.int .i64 o.kind, .int .i64 o.off, .int .i64 o.len, .slice X mm cc] := by rw [← hw1]; exact (Blk.new _ _ _ (by simp)).alloc _
  have k3 : Blk w1 (w.heap.size + 2) 28 #[.int .i64 a, .int .i64 n] := by rw [← hw1]; exact Blk.new _ _ _ (by simp)
  have HS1 := Lib.hid (fun w' (hb : Below w1.heap.size w1 w') => show w'.cell? ⟨w.heap.size, 0, none⟩ = some (.int .i64 m.v) ∧ w'.cell? ⟨w.heap.size, 1, none⟩ = some (.int .i64 m.n) ∧ w'.cell? ⟨w.heap.size, 2, none⟩ = some (.slice A k c) ∧ w'.cell? ⟨w.heap.size + 1, 0, none⟩ = some (.int .i64 o.kind) ∧ w'.cell? ⟨w.heap.size + 1, 1, none⟩ = some (.int .i64 o.off) ∧ w'.cell? ⟨w.heap.size + 1, 2, none⟩ = some (.int .i64 o.len) ∧ w'.cell? ⟨w.heap.size + 1, 3, none⟩ = some (.slice X mm cc) from ⟨(k1.keep hb).cell rfl, (k1.keep hb).cell rfl, (k1.keep hb).cell rfl, (k2.keep hb).cell rfl, (k2.keep hb).cell rfl, (k2.keep hb).cell rfl, (k2.keep hb).cell rfl⟩)
  have HS2 := Lib.hid (fun w' (hb : Below w1.heap.size w1 w') => show w'.cell? ⟨w.heap.size, 0, none⟩ = some (.int .i64 m.v) ∧ w'.cell? ⟨w.heap.size, 1, none⟩ = some (.int .i64 m.n) ∧ w'.cell? ⟨w.heap.size, 2, none⟩ = some (.slice A k c) ∧ w'.cell? ⟨w.heap.size + 2, 0, none⟩ = some (.int .i64 a) ∧ w'.cell? ⟨w.heap.size + 2, 1, none⟩ = some (.int .i64 n) from ⟨(k1.keep hb).cell rfl, (k1.keep hb).cell rfl, (k1.keep hb).cell rfl, (k3.keep hb).cell rfl, (k3.keep hb).cell rfl⟩)
  obtain ⟨E, hE⟩ : ∃ E, opsE m o = E := ⟨_, rfl⟩
  obtain ⟨G, hG⟩ : ∃ G, readsE m a n = G := ⟨_, rfl⟩
  obtain ⟨P, hP⟩ : ∃ P, opsL m o = P := ⟨_, rfl⟩
  obtain ⟨Q, hQ⟩ : ∃ Q, readsL m a n = Q := ⟨_, rfl⟩
  obtain ⟨R, hR⟩ : ∃ R, decide (P = Q) = R := ⟨_, rfl⟩
  have hP16 : P.length ≤ 16 := by rw [← hP]; exact ops_16
  have hQ16 : Q.length ≤ 16 := by rw [← hQ]; exact reads_16c
  have tE : (E == E) = true := by simp
  have tG : (G == G) = true := by simp
  have tR : (R == R) = true := by simp
  have HE := Lib.hid hE
  have HG := Lib.hid hG
  have HP := Lib.hid hP
  have HQ := Lib.hid hQ
  have HR := Lib.hid hR
  have S0 := HS1.out _ (Below.refl _ _)
  have HW1 := Lib.hid hw1
  clear h hd k1 k2 k3 hE hG hP hQ hR hw1
  go_enter Try.func3, Try.ntmps3
  go_wp2_with fail
  rw [HW1.out]
  go_region_held3 (fun w' => w'.cell? ⟨w.heap.size, 0, none⟩ = some (.int .i64 m.v) ∧ w'.cell? ⟨w.heap.size, 1, none⟩ = some (.int .i64 m.n) ∧ w'.cell? ⟨w.heap.size, 2, none⟩ = some (.slice A k c) ∧ w'.cell? ⟨w.heap.size + 1, 0, none⟩ = some (.int .i64 o.kind) ∧ w'.cell? ⟨w.heap.size + 1, 1, none⟩ = some (.int .i64 o.off) ∧ w'.cell? ⟨w.heap.size + 1, 2, none⟩ = some (.int .i64 o.len) ∧ w'.cell? ⟨w.heap.size + 1, 3, none⟩ = some (.slice X mm cc)) (first | exact S0 | exact S2 | exact S3 | go_keep)
    (first
      | (go_at_call 11
         refine (theirs_ _ m A k c).mono ?_
         rintro e w2 ⟨rfl, hc2⟩
         have hbA : Below w1.heap.size w1 w2 := below_undrew hc2
         have S2 := HS1.out w2 hbA
         have hmA := hm1.below hbA
         have hdA := hd1.below hbA)
      | (go_at_call 10
         refine (ops_ _ m A k c hmA o X mm cc hdA).mono ?_
         rw [HE.out, HP.out]
         rintro e w3 ⟨A3, n3, c3, L3, rfl, hG3, hL3, hc3⟩
         have HL3 := Lib.hid hL3
         have hbB : Below w1.heap.size w1 w3 := below_step hbA hc3 (Nat.le_refl _)
         have S3 := HS1.out w3 hbB))
  have hn3 := got_16 hG3 HL3.out hP16
  have hp3 := hG3.ptl
  obtain ⟨s0, s1, s2, s3, s4, s5, s6⟩ := HS1.out w3 hbB
  have hm3 := hm1.below hbB
  have hd3 := hd1.below hbB
  clear S0 S2 S3 hmA hdA hL3 hc3 hbA hG3 hc2
  go_wp2_with fail
  refine (rops_ _ m A k c hm3 o X mm cc hd3).mono ?_
  rw [HE.out, HP.out]
  rintro e w4 ⟨A4, n4, c4, L4, rfl, hG4, hL4, hc4⟩
  have HL4 := Lib.hid hL4
  have hn4 := got_16 hG4 hL4 hP16
  have hp4 := hG4.ptl
  have hb4 := below_step hbB hc4 (Nat.le_refl _)
  have hp34 := hp3.below hc4
  have T0 := HS2.out w4 hb4
  have hm4 := hm1.below hb4
  clear s0 s1 s2 s3 s4 s5 s6 hL4 hG4 hp3 hc4 hm3 hd3 hbB
  go_wp2_with fail
  go_region_held3 (fun w' => w'.cell? ⟨w.heap.size, 0, none⟩ = some (.int .i64 m.v) ∧ w'.cell? ⟨w.heap.size, 1, none⟩ = some (.int .i64 m.n) ∧ w'.cell? ⟨w.heap.size, 2, none⟩ = some (.slice A k c) ∧ w'.cell? ⟨w.heap.size + 2, 0, none⟩ = some (.int .i64 a) ∧ w'.cell? ⟨w.heap.size + 2, 1, none⟩ = some (.int .i64 n)) (first | exact T0 | exact T2 | exact T3 | go_keep)
    (first
      | (go_at_call 11
         refine (theirs_ _ m A k c).mono ?_
         rintro e w5 ⟨rfl, hc5⟩
         have hcA : Below w4.heap.size w4 w5 := below_undrew hc5
         have hb5 := below_step hb4 hcA (Nat.le_refl _)
         have T2 := HS2.out w5 hb5
         have hm5 := hm1.below hb5)
      | (go_at_call 13
         refine (reads_ _ m A k c hm5 a n ha hn).mono ?_
         rw [HG.out, HQ.out]
         rintro e w6 ⟨A6, n6, c6, L6, rfl, hG6, hL6, hc6⟩
         have HL6 := Lib.hid hL6
         have hcB : Below w4.heap.size w4 w6 := below_step hcA hc6 (Nat.le_refl _)
         have hb6 := below_step hb4 hcB (Nat.le_refl _)
         have T3 := HS2.out w6 hb6))
  have hn6 := got_16 hG6 HL6.out hQ16
  have hp6 := hG6.ptl
  have hp36 := hp34.below hcB
  have hp46 := hp4.below hcB
  obtain ⟨s0, s1, s2, s3, s4⟩ := HS2.out w6 hb6
  have hm6 := hm1.below hb6
  clear T0 T2 T3 hm5 hL6 hc6 hcA hG6 hc5 hm4 hb5 hb4 hp34 hp4
  go_wp2_with fail
  refine (rreads_ _ m A k c hm6 a n ha hn).mono ?_
  rw [HG.out, HQ.out]
  rintro e w7 ⟨A7, n7, c7, L7, rfl, hG7, hL7, hc7⟩
  have HL7 := Lib.hid hL7
  have hn7 := got_16 hG7 hL7 hQ16
  have hp7 := hG7.ptl
  have hb7 := below_step hb6 hc7 (Nat.le_refl _)
  have hp37 := hp36.below hc7
  have hp47 := hp46.below hc7
  have hp67 := hp6.below hc7
  have hB7 := below_step hb1 hb7 (Nat.le_refl _)
  clear s0 s1 s2 s3 s4 hL7 hG7 hc7 hm6 hb6 hp36 hp46 hp6 hm1 hd1 hcB hb7 hb1
  go_wp2_with fail
  refine (ours_ _ A3 n3 c3 L3 hp37 (by omega)).mono ?_
  rintro e w8 ⟨A8, c8, rfl, -, hp8, hc8⟩
  have q3 := hp37.below hc8
  have q4 := hp47.below hc8
  have q6 := hp67.below hc8
  have q7 := hp7.below hc8
  have hB8 := below_step hB7 hc8 (Nat.le_refl _)
  clear hp37 hp47 hp67 hp7 hc8 hB7
  go_wp2_with fail
  refine (rpsame_ _ A8 A4 n3 n4 c8 c4 L3 L4 hp8 q4 (by omega) (by omega)).mono ?_
  rw [HL3.out, HL4.out, decide_eq_true (rfl : P = P)]
  rintro e w9 ⟨rfl, hc9⟩
  have r3 := q3.below hc9
  have r4 := q4.below hc9
  have r6 := q6.below hc9
  have r7 := q7.below hc9
  have hB9 := below_step hB8 hc9 (Nat.le_refl _)
  clear q3 q4 q6 q7 hc9 hB8 hp8
  go_wp2_with fail
  refine (ours_ _ A6 n6 c6 L6 r6 (by omega)).mono ?_
  rintro e w10 ⟨A10, c10, rfl, -, hp10, hc10⟩
  have q3 := r3.below hc10
  have q4 := r4.below hc10
  have q6 := r6.below hc10
  have q7 := r7.below hc10
  have hB10 := below_step hB9 hc10 (Nat.le_refl _)
  clear r3 r4 r6 r7 hc10 hB9
  go_wp2_with fail
  refine (rpsame_ _ A10 A7 n6 n7 c10 c7 L6 L7 hp10 q7 (by omega) (by omega)).mono ?_
  rw [HL6.out, HL7.out, decide_eq_true (rfl : Q = Q)]
  rintro e w11 ⟨rfl, hc11⟩
  have r3 := q3.below hc11
  have r4 := q4.below hc11
  have r6 := q6.below hc11
  have r7 := q7.below hc11
  have hB11 := below_step hB10 hc11 (Nat.le_refl _)
  clear q3 q4 q6 q7 hc11 hB10 hp10
  go_wp2_with fail
  refine (psame_ _ A3 A6 n3 n6 c3 c6 L3 L6 r3 r6 (by omega) (by omega)).mono ?_
  rw [HL3.out, HL6.out, HR.out]
  rintro e w12 ⟨rfl, hc12⟩
  have q3 := r3.below hc12
  have q4 := r4.below hc12
  have q7 := r7.below hc12
  have hB12 := below_step hB11 hc12 (Nat.le_refl _)
  clear r3 r4 r6 r7 hc12 hB11
  go_wp2_with fail
  refine (rpsame_ _ A4 A7 n4 n7 c4 c7 L4 L7 q4 q7 (by omega) (by omega)).mono ?_
  rw [HL4.out, HL7.out, HR.out]
  rintro e w13 ⟨rfl, hc13⟩
  have r3 := q3.below hc13
  have hB13 := below_step hB12 hc13 (Nat.le_refl _)
  clear q3 q4 q7 hc13 hB12
  go_wp2_with fail
  refine (psame_ _ A3 A3 n3 n3 c3 c3 L3 L3 r3 r3 (by omega) (by omega)).mono ?_
  rw [decide_eq_true (rfl : L3.map Prod.fst = L3.map Prod.fst)]
  rintro e w14 ⟨rfl, hc14⟩
  have hB14 := below_step hB13 hc14 (Nat.le_refl _)
  clear r3 hc14 hB13
  go_wp2_with fail
  refine (alive_ _).mono ?_
  rintro e w15 ⟨rfl, hc15⟩
  go_wp2
  go_ret
  exact ⟨rfl, below_step hB14 hc15 (Nat.le_refl _)⟩
end
end Pla
open Pla

set_option maxRecDepth 100000 in
theorem planCuts_lifted (os : Os) (started : os.Started) (H : Type) (enc : TypeId × Value → H) :
    ReturnsInHanded {} Try.checked os 3 .any (Rows.planCutsSpec.pre6 enc Try.prog Try.f3 Rows.planCutsRow.domain false) (Rows.planCutsSpec.post enc Try.prog Try.f3 false true false false) := by
  refine law_lifted (C := Try.checked) (tb := 4) own_ started (by kernel_rfl) Try.func3
    (ChangeSpec.witness6 (enc := enc) (C := Try.checked) false ⟨#[], #[.agg #[.int .i64 0, .int .i64 0, .slice none 0 0], .agg #[.int .i64 0, .int .i64 0, .int .i64 0, .slice none 0 0], .agg #[.int .i64 0, .int .i64 0]], []⟩ 8 (by kernel_rfl) (by kernel_rfl) (by kernel_rfl) (by kernel_rfl))
    rfl rfl Try.underlying4 laidOut_ (by kernel_rfl) (fun ds h => by match ds, h with | [_, _, _], _ => rfl) ?_
  intro W base args ds p hval0 hA0 _ hsz0
  have hval : ∀ (j : Nat) t v, Try.f3.params[j]? = some t → args[j]? = some v → Value.okWide Try.prog W .any base t v := hval0
  have hA : DataW.TrodAll enc Try.prog W 0 (fun _ => true) true Try.f3.params.toList args.toList ds p := hA0
  have hsz : (DataW.weightsEach Try.prog Try.f3.params.toList ds).all (· ≤ reachBytes) = true := hsz0
  clear hval0 hA0 hsz0
  rw [Try.params3] at hA hval hsz
  obtain ⟨v0, v1, v2, d0, d1, d2, p0, p1, p2, rfl, rfl, rfl, h0, h1, h2⟩ := trodAll_three hA
  obtain ⟨cs0, a0, rfl, r0, b0⟩ := arg_struct Sma.ops_mp Try.underlying24 (hval 0 _ v0 rfl rfl) h0 (weight_at hsz (j := 0) rfl rfl)
  obtain ⟨cs1, a1, rfl, r1, b1⟩ := arg_struct Blo.ops_op Try.underlying27 (hval 1 _ v1 rfl rfl) h1 (weight_at hsz (j := 1) rfl rfl)
  obtain ⟨cs2, a2, rfl, r2, b2⟩ := arg_arr ops_two Try.underlying28 (hval 2 _ v2 rfl rfl) h2 (weight_at hsz (j := 2) rfl rfl)
  exact by
    obtain ⟨A0, k0, c0, rfl, hm, hcb⟩ := Sma.mp_arr r0
    obtain ⟨X1, m1, c1, rfl, hd⟩ := Blo.op_arr r1
    obtain ⟨rfl, ha, hn⟩ := two_arr r2
    exact cuts_walk W (Sma.toMp a0) A0 k0 c0 hm (Blo.toOp a1) X1 m1 c1 hd _ _ ha hn

/-- PlanCuts, for every input: the statement as it was given. -/
theorem planCuts_holds : Rows.PlanCutsSaid :=
  OpenClaim.holds_of_wide 3 Try.f3 rfl rfl rfl rfl rfl rfl rfl ⟨rfl, rfl, rfl, rfl, rfl⟩ rfl rfl rfl rfl rfl (by kernel_rfl) Try.func3 (by kernel_rfl)
    (of_decide_eq_true (by kernel_rfl)) (by unfold Func.isWrapper; first | (rw [if_pos (by decide +kernel)]; kernel_rfl) | (rw [if_neg (by decide +kernel)]; exact ⟨rfl, rfl⟩))
    (fun os started H enc _ => planCuts_lifted os started H enc)
end Go.Proofs.Ytdcggnfplfgcnaa
