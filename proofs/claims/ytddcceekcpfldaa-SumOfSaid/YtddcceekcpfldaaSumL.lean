/- Proves SumOf, SumOpens and SumBack of layer 1 (check sums), each for every input, with no condition: sums, seals and openings are the document's, and what was sealed is opened. -/
import Derived.Test.YtddcceekcpfldaaSumWb
import Derived.Test.YtddcceekcpfldaaLaw
import Derived.ProofKit
namespace Go.Proofs.Ytddcceekcpfldaa
open Go.ChangeShapes Go.WideShapes Go.ChangeAt Go.RowKit

theorem own_ : ownKnob Try.prog.godebug = none := by kernel_rfl
theorem laidOut_ : laidOutB Try.prog = true := by kernel_rfl
theorem cells_u8 : Try.prog.cellsOf 5 = 1 := by kernel_rfl
theorem bytes_u8 : Try.prog.bytesOf 5 = 1 := by kernel_rfl
theorem cells_b : Try.prog.cellsOf 24 = 1 := by kernel_rfl

set_option maxRecDepth 100000 in
set_option maxHeartbeats 1000000 in
theorem sumOf_walk (s : Nat) (hs : s < 4294967296) (A B : Option Addr) (n c m d : Nat) (xss : List (List UInt8)) (b : List UInt8) (w : World) (hx : Bss w A n xss) (hn : n ≤ c) (hc : c ≤ 9223372036854775807) (hb : Bs w B m b) (hm : m ≤ d) (hd : d ≤ 9223372036854775807) :
    Calls Try.prog 3 #[.slice A n c, .int .u32 (s : Int), .slice B m d] w fun e w' => e = .returned (.bool true) ∧ Below w.heap.size w w' := by
  go_enter Try.func3, Try.ntmps3
  go_wp2_with (first
    | (go_at_call 10; refine (sumOf _ _ _ _ _ hx (by omega)).mono ?_; rintro e w' ⟨rfl, rfl⟩)
    | (go_at_call 11; refine (refOf _ _ _ _ _ hx (by omega)).mono ?_; rintro e w' ⟨rfl, rfl⟩)
    | (go_at_call 12; refine (sumMore _ hs _ _ _ _ _ hb hm hd).mono ?_; rintro e w' ⟨rfl, rfl⟩)
    | (go_at_call 13; refine (refMore _ hs _ _ _ _ _ hb (by omega)).mono ?_; rintro e w' ⟨rfl, rfl⟩)
    | (go_at_call 14; refine (alive_ _).mono ?_; rintro e w' ⟨rfl, hbw⟩))
  go_ret
  exact ⟨rfl, hbw⟩

theorem sumOf_lifted (os : Os) (started : os.Started) (H : Type) (enc : TypeId × Value → H) :
    ReturnsInHanded {} Try.checked os 3 .any (Rows.sumOfSpec.pre6 enc Try.prog Try.f3 Rows.sumOfRow.domain false) (Rows.sumOfSpec.post enc Try.prog Try.f3 false true false false) := by
  refine law_lifted (C := Try.checked) (tb := 4) own_ started (by kernel_rfl) Try.func3
    (ChangeSpec.witness6 (enc := enc) (C := Try.checked) false ⟨#[], #[.slice none 0 0, .int .u32 0, .slice none 0 0], []⟩ 8 (by kernel_rfl) (by kernel_rfl) (by kernel_rfl) (by kernel_rfl))
    rfl rfl Try.underlying4 laidOut_ (by kernel_rfl) (fun ds h => by match ds, h with | [_, _, _], _ => rfl) ?_
  intro W base args ds p hval0 hA0 _ _
  have hval : ∀ (j : Nat) t v, Try.f3.params[j]? = some t → args[j]? = some v → Value.okWide Try.prog W .any base t v := hval0
  have hA : DataW.TrodAll enc Try.prog W 0 (fun _ => true) true Try.f3.params.toList args.toList ds p := hA0
  clear hval0 hA0
  rw [Try.params3] at hA hval
  obtain ⟨v0, v1, v2, d0, d1, d2, p0, p1, p2, rfl, rfl, rfl, h0, h1, h2⟩ := trodAll_three hA
  obtain ⟨A, n, c, xss, rfl, hx, hnc, _, hc⟩ := open_bytess Try.underlying22 Try.underlying24 Try.underlying5 cells_b cells_u8 (hval 0 _ v0 rfl rfl) h0
  obtain ⟨s, rfl, rfl, rfl, ws⟩ := open_int Try.underlying23 (hval 1 _ v1 rfl rfl) h1
  obtain ⟨B, m, d, b, rfl, hb, hmd, _, hd, _⟩ := open_bytes Try.underlying24 Try.underlying5 cells_u8 bytes_u8 (hval 2 _ v2 rfl rfl) h2
  have hs := bounds_u32 ws
  obtain ⟨k, rfl⟩ := Int.eq_ofNat_of_zero_le hs.1
  exact sumOf_walk k (by omega) A B n c m d xss b W hx hnc hc hb hmd hd

/-- SumOf, for every input. -/
theorem sumOf_holds : Rows.SumOfSaid :=
  OpenClaim.holds_of_wide 3 Try.f3 rfl rfl rfl rfl rfl rfl rfl ⟨rfl, rfl, rfl, rfl, rfl⟩ rfl rfl rfl rfl rfl (by kernel_rfl) Try.func3 (by kernel_rfl)
    (of_decide_eq_true (by kernel_rfl)) (by unfold Func.isWrapper; first | (rw [if_pos (by decide +kernel)]; kernel_rfl) | (rw [if_neg (by decide +kernel)]; exact ⟨rfl, rfl⟩))
    (fun os started H enc _ => sumOf_lifted os started H enc)

set_option maxRecDepth 100000 in
set_option maxHeartbeats 1000000 in
theorem sumOpens_walk (A : Option Addr) (n c : Nat) (xs : List UInt8) (w : World) (hr : Bs w A n xs) (hA : A = none → n = 0 ∧ c = 0) (hnc : n ≤ c) (hc : c ≤ 140737488351232) :
    Calls Try.prog 4 #[.slice A n c] w fun e w' => e = .returned (.bool true) ∧ Below w.heap.size w w' := by
  have hA0 : A = none → n = 0 := fun h => (hA h).1
  go_enter Try.func4, Try.ntmps4
  go_wp2_with fail
  refine (open_ _ _ _ _ _ hr hA hnc (by omega) (by omega)).mono ?_
  rintro e w1 ⟨v1, rfl, hown1, hb1⟩
  go_wp2_with fail
  refine (refOpen _ _ _ _ _ (hr.below hb1) hA hnc (by omega) (by omega)).mono ?_
  rintro e w2 ⟨v2, rfl, hown2, hb2⟩
  have hr2 := (hr.below hb1).below hb2
  go_wp2_with fail
  refine (seal_ _ _ _ _ _ hr2 hA0 hnc (by omega) (by omega)).mono ?_
  rintro e w3 ⟨v3, rfl, hown3, hb3⟩
  go_wp2_with fail
  refine (refSeal _ _ _ _ _ (hr2.below hb3) hA0 hnc (by omega) (by omega)).mono ?_
  rintro e w4 ⟨v4, rfl, hown4, hb4⟩
  obtain ⟨A1, c1, rfl, hc1, hm1, ha1⟩ := own_form hown1
  obtain ⟨A2, c2, rfl, hc2, hm2, ha2⟩ := own_form hown2
  obtain ⟨A3, c3, rfl, hc3, hm3, ha3⟩ := own_form hown3
  obtain ⟨A4, c4, rfl, hc4, hm4, ha4⟩ := own_form hown4
  have hw1 : Below w.heap.size w w4 := below_step (below_step (below_step hb1 hb2 (Nat.le_refl _)) hb3 (Nat.le_refl _)) hb4 (Nat.le_refl _)
  have r1 := bs_own (own_keep (own_keep (own_keep hown1 hb2) hb3) hb4)
  have r2 := bs_own (own_keep (own_keep hown2 hb3) hb4)
  have r3 := bs_own (own_keep hown3 hb4)
  have r4 := bs_own hown4
  have q1 : (xs ++ sumBytes (adOf [xs]) == xs ++ sumBytes (adOf [xs])) = true := by simp
  have q2 : (openL xs == openL xs) = true := by simp
  go_wp2_with fail
  refine (same_ _ _ _ _ _ _ _ _ _ r3 r4 (fun h => (ha3 h).1) (fun h => (ha4 h).1)).mono ?_
  rintro e w' ⟨rfl, rfl⟩
  go_wp2_with fail
  refine (same_ _ _ _ _ _ _ _ _ _ r1 r2 (fun h => (ha1 h).1) (fun h => (ha2 h).1)).mono ?_
  rintro e w' ⟨rfl, rfl⟩
  go_wp2_with (refine (alive_ _).mono ?_; rintro e w5 ⟨rfl, hb5⟩)
  go_ret
  exact ⟨rfl, below_step hw1 hb5 (Nat.le_refl _)⟩

theorem sumOpens_lifted (os : Os) (started : os.Started) (H : Type) (enc : TypeId × Value → H) :
    ReturnsInHanded {} Try.checked os 4 .any (Rows.sumOpensSpec.pre6 enc Try.prog Try.f4 Rows.sumOpensRow.domain false) (Rows.sumOpensSpec.post enc Try.prog Try.f4 false true false false) := by
  refine law_lifted (C := Try.checked) (tb := 4) own_ started (by kernel_rfl) Try.func4
    (ChangeSpec.witness6 (enc := enc) (C := Try.checked) false ⟨#[], #[.slice none 0 0], []⟩ 8 (by kernel_rfl) (by kernel_rfl) (by kernel_rfl) (by kernel_rfl))
    rfl rfl Try.underlying4 laidOut_ (by kernel_rfl) (fun ds h => by match ds, h with | [_], _ => rfl) ?_
  intro W base args ds p hval0 hA0 _ hsz0
  have hval : ∀ (j : Nat) t v, Try.f4.params[j]? = some t → args[j]? = some v → Value.okWide Try.prog W .any base t v := hval0
  have hA : DataW.TrodAll enc Try.prog W 0 (fun _ => true) true Try.f4.params.toList args.toList ds p := hA0
  have hsz : (DataW.weightsEach Try.prog Try.f4.params.toList ds).all (· ≤ reachBytes) = true := hsz0
  clear hval0 hA0 hsz0
  rw [Try.params4] at hA hval hsz
  obtain ⟨v0, d0, rfl, rfl, h0⟩ := trodAll_one hA
  obtain ⟨A0, n0, c0, xs0, rfl, hb0, hn0, ha0, hm0, hw0⟩ := open_bytes Try.underlying24 Try.underlying5 cells_u8 bytes_u8 (hval 0 _ v0 rfl rfl) h0
  have hc0 := hw0 (weight_at hsz (j := 0) rfl rfl)
  exact sumOpens_walk A0 n0 c0 xs0 W hb0 ha0 hn0 hc0

/-- SumOpens, for every input: the statement as it was given. -/
theorem sumOpens_holds : Rows.SumOpensSaid :=
  OpenClaim.holds_of_wide 4 Try.f4 rfl rfl rfl rfl rfl rfl rfl ⟨rfl, rfl, rfl, rfl, rfl⟩ rfl rfl rfl rfl rfl (by kernel_rfl) Try.func4 (by kernel_rfl)
    (of_decide_eq_true (by kernel_rfl)) (by unfold Func.isWrapper; first | (rw [if_pos (by decide +kernel)]; kernel_rfl) | (rw [if_neg (by decide +kernel)]; exact ⟨rfl, rfl⟩))
    (fun os started H enc _ => sumOpens_lifted os started H enc)

/-- What is sealed fits. -/
theorem okSum_seal (xs : List UInt8) : okSum (xs ++ sumBytes (adOf [xs])) = true := by
  have hl : (xs ++ sumBytes (adOf [xs])).length = xs.length + 4 := by simp [sumBytes]
  rw [okSum_at _ xs.length hl.symm, List.drop_append_of_le_length (Nat.le_refl _), List.drop_length, List.nil_append, List.take_append_of_le_length (Nat.le_refl _), List.take_length]
  simp
theorem openL_seal (xs : List UInt8) : openL (xs ++ sumBytes (adOf [xs])) = xs := by
  unfold openL
  rw [okSum_seal, if_pos rfl, show (xs ++ sumBytes (adOf [xs])).length - 4 = xs.length by simp [sumBytes], List.take_append_of_le_length (Nat.le_refl _), List.take_length]
theorem openE_seal (xs : List UInt8) : openE (xs ++ sumBytes (adOf [xs])) = 0 := by
  unfold openE
  rw [okSum_seal, if_pos rfl]

set_option maxRecDepth 100000 in
set_option maxHeartbeats 1000000 in
theorem sumBack_walk (A : Option Addr) (n c : Nat) (xs : List UInt8) (w : World) (hr : Bs w A n xs) (hA : A = none → n = 0 ∧ c = 0) (hnc : n ≤ c) (hc : c ≤ 140737488351232) :
    Calls Try.prog 5 #[.slice A n c] w fun e w' => e = .returned (.bool true) ∧ Below w.heap.size w w' := by
  have hA0 : A = none → n = 0 := fun h => (hA h).1
  go_enter Try.func5, Try.ntmps5
  go_wp2_with fail
  refine (seal_ _ _ _ _ _ hr hA0 hnc (by omega) (by omega)).mono ?_
  rintro e w1 ⟨v1, rfl, hown1, hb1⟩
  obtain ⟨A1, c1, rfl, hc1, hm1, ha1⟩ := own_form hown1
  go_wp2_with fail
  refine (open_ _ _ _ _ _ (bs_own hown1) ha1 hc1 (by unfold maxLen at hm1; omega) (by omega)).mono ?_
  rw [openL_seal, openE_seal]
  rintro e w2 ⟨v2, rfl, hown2, hb2⟩
  obtain ⟨A2, c2, rfl, hc2, hm2, ha2⟩ := own_form hown2
  have hw1 : Below w.heap.size w w2 := below_step hb1 hb2 (Nat.le_refl _)
  have q2 : (xs == xs) = true := by simp
  go_wp2_with fail
  refine (same_ _ _ _ _ _ _ _ _ _ (bs_own hown2) (hr.below hw1) (fun h => (ha2 h).1) hA0).mono ?_
  rintro e w' ⟨rfl, rfl⟩
  go_wp2_with (refine (alive_ _).mono ?_; rintro e w5 ⟨rfl, hb5⟩)
  go_ret
  exact ⟨rfl, below_step hw1 hb5 (Nat.le_refl _)⟩

theorem sumBack_lifted (os : Os) (started : os.Started) (H : Type) (enc : TypeId × Value → H) :
    ReturnsInHanded {} Try.checked os 5 .any (Rows.sumBackSpec.pre6 enc Try.prog Try.f5 Rows.sumBackRow.domain false) (Rows.sumBackSpec.post enc Try.prog Try.f5 false true false false) := by
  refine law_lifted (C := Try.checked) (tb := 4) own_ started (by kernel_rfl) Try.func5
    (ChangeSpec.witness6 (enc := enc) (C := Try.checked) false ⟨#[], #[.slice none 0 0], []⟩ 8 (by kernel_rfl) (by kernel_rfl) (by kernel_rfl) (by kernel_rfl))
    rfl rfl Try.underlying4 laidOut_ (by kernel_rfl) (fun ds h => by match ds, h with | [_], _ => rfl) ?_
  intro W base args ds p hval0 hA0 _ hsz0
  have hval : ∀ (j : Nat) t v, Try.f5.params[j]? = some t → args[j]? = some v → Value.okWide Try.prog W .any base t v := hval0
  have hA : DataW.TrodAll enc Try.prog W 0 (fun _ => true) true Try.f5.params.toList args.toList ds p := hA0
  have hsz : (DataW.weightsEach Try.prog Try.f5.params.toList ds).all (· ≤ reachBytes) = true := hsz0
  clear hval0 hA0 hsz0
  rw [Try.params5] at hA hval hsz
  obtain ⟨v0, d0, rfl, rfl, h0⟩ := trodAll_one hA
  obtain ⟨A0, n0, c0, xs0, rfl, hb0, hn0, ha0, hm0, hw0⟩ := open_bytes Try.underlying24 Try.underlying5 cells_u8 bytes_u8 (hval 0 _ v0 rfl rfl) h0
  have hc0 := hw0 (weight_at hsz (j := 0) rfl rfl)
  exact sumBack_walk A0 n0 c0 xs0 W hb0 ha0 hn0 hc0

/-- SumBack, for every input: the statement as it was given. -/
theorem sumBack_holds : Rows.SumBackSaid :=
  OpenClaim.holds_of_wide 5 Try.f5 rfl rfl rfl rfl rfl rfl rfl ⟨rfl, rfl, rfl, rfl, rfl⟩ rfl rfl rfl rfl rfl (by kernel_rfl) Try.func5 (by kernel_rfl)
    (of_decide_eq_true (by kernel_rfl)) (by unfold Func.isWrapper; first | (rw [if_pos (by decide +kernel)]; kernel_rfl) | (rw [if_neg (by decide +kernel)]; exact ⟨rfl, rfl⟩))
    (fun os started H enc _ => sumBack_lifted os started H enc)
end Go.Proofs.Ytddcceekcpfldaa
