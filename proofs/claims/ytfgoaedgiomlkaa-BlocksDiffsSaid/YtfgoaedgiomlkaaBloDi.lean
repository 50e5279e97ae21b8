/- Proves BlocksDiffs of layer 8 (blocks), for every input, with no condition: Diff of two volumes makes one of the other, and is nothing, if they are the same. -/
import Derived.Test.YtfgoaedgiomlkaaBloW
set_option linter.all false
namespace Go.Proofs.Ytfgoaedgiomlkaa
open Go.ChangeShapes Go.WideShapes Go.ChangeAt Go.RowKit
open Blo

theorem dfE_ok {a b : List Nat} (h : dfE a b = 0) : manyB a.length = true ∧ a.length = b.length := by
  unfold dfE at h
  split at h
  · rename_i h1
    split at h
    · rename_i h2; exact ⟨(Bool.and_eq_true_iff.1 h1).1, h2⟩
    · cases h
  · cases h
theorem dfE_no {a b : List Nat} (h : dfE a b ≠ 0) : a.length = b.length → 1024 < a.length := by
  intro e
  unfold dfE at h
  rw [if_pos e, ← e, Bool.and_self] at h
  split at h
  · exact absurd rfl h
  · rename_i h1
    simp only [manyB, Bool.and_eq_true, decide_eq_true_eq] at h1
    omega
theorem dfL_ok {a b : List Nat} (h1 : manyB a.length = true) (h2 : a.length = b.length) : dfL a b = shortS (dfM a b) a.length := by
  unfold dfL
  rw [← h2, h1, if_pos rfl]
  rfl
theorem dfM_get (a b : List Nat) (i : Nat) : (dfM a b i).getD (fun_ a (i : Int)) = fun_ b (i : Int) := by
  unfold dfM tof unl
  by_cases h : fun_ a (i : Int) = fun_ b (i : Int)
  · rw [if_neg (by simp [h])]; exact h
  · rw [if_pos (by simp [h])]; rfl
theorem dfL_does {a b : List Nat} {n : Nat} (hn : n = a.length) (h2 : a.length = b.length) : vol n ((shortS (dfM a b) n).foldl doF (fun_ a)) = b := by
  have hb : b = vol n (fun_ b) := vol_is (by omega)
  conv => rhs; rw [hb]
  refine vol_congr fun i hi => ?_
  rw [do_told, short_told, if_pos hi]
  exact dfM_get a b i
theorem dfL_nil {a b : List Nat} {n : Nat} (hn : n = a.length) (h2 : a.length = b.length) : decide ((shortS (dfM a b) n).length = 0) = decide (a = b) := by
  rw [decide_eq_decide]
  have ha : a = vol n (fun_ a) := vol_is hn
  have hb : b = vol n (fun_ b) := vol_is (by omega)
  constructor
  · intro h
    have h1 := (short_nil (dfM a b) n).1 (List.eq_nil_of_length_eq_zero h)
    have : vol n (fun_ a) = vol n (fun_ b) := vol_congr fun i hi => by
      have := dfM_get a b i
      rw [h1 i hi] at this
      exact this
    rw [← ha, ← hb] at this
    exact this
  · intro h
    subst h
    have : shortS (dfM a a) n = [] := (short_nil _ _).2 fun i hi => by
      unfold dfM tof unl
      rw [if_neg (by simp)]
    rw [this]
    rfl
set_option maxRecDepth 100000 in
set_option maxHeartbeats 4000000 in
theorem blocksDiffs_walk (w : World) (A B : Option Addr) (n m c d : Nat) (a b : List Nat) (ha : Ns w A n a) (hA : A = none → n = 0 ∧ c = 0) (hnc : n ≤ c) (hc : c ≤ 9223372036854775807) (hb : Ns w B m b) (hmd : m ≤ d) (hd : d ≤ 9223372036854775807) :
    Calls Try.prog 6 #[.slice A n c, .slice B m d] w fun e w' => e = .returned (.bool true) ∧ Below w.heap.size w w' := by
  have hna := ha.len
  have hmb := hb.len
  by_cases h0 : dfE a b = 0
  · obtain ⟨h1, h2⟩ := dfE_ok h0
    have hnm : m = n := by omega
    subst hnm
    obtain ⟨l, hl⟩ : ∃ l, shortS (dfM a b) m = l := ⟨_, rfl⟩
    have hm1 : manyB m = true := by rw [hna]; exact h1
    have hl1 : dfL a b = l := by rw [dfL_ok h1 h2, ← hna, hl]
    have hl2 : l.all (·.right (m : Int)) = true := by rw [← hl]; exact short_right hm1
    have hl3 : apL a l = b := by
      rw [hna] at hl2
      rw [apL_ok h1 hl2, ← hna, ← hl]
      exact dfL_does hna h2
    have hl4 : decide (l.length = 0) = decide (a = b) := by rw [← hl]; exact dfL_nil hna h2
    have H0 := Lib.hid h0
    have Hl1 := Lib.hid hl1
    have Hap := Lib.hid (apE_of hm1 hl2)
    have Hl3 := Lib.hid hl3
    have Hl4 := Lib.hid hl4
    clear h0 h1 h2 hl hl1 hl2 hl3 hl4 hm1 hna hmb
    go_enter Try.func6, Try.ntmps6
    go_wp2_with fail
    refine (diff w A B m m c d a b ha hb hnc hc hmd hd).mono ?_
    rw [H0.out, Hl1.out]
    rintro e w1 ⟨A1, m1, c1, rfl, g1, hb1⟩
    have z1 := g1.bounds
    have ha1 := ha.below hb1
    have hbb1 := hb.below hb1
    have Hml := Lib.hid g1.len
    clear ha hb
    go_wp2_with fail
    refine (apply_ w1 A m c a ha1 hA hnc hc A1 m1 c1 l g1.os (by omega)).mono ?_
    rw [Hap.out, Hl3.out]
    rintro e w2 ⟨A2, m2, c2, rfl, g2, hb2⟩
    have z2 := g2.bounds
    have ha2 := ha1.below hb2
    have hbb2 := hbb1.below hb2
    have hB2 := below_step hb1 hb2 (Nat.le_refl _)
    clear g1 hb1 hb2 ha1 hbb1
    go_wp2_with fail
    refine (words_ w2 A2 B m2 m c2 d b b g2.ns hbb2 (by omega)).mono ?_
    rw [decide_eq_true (rfl : b = b)]
    rintro e w3 ⟨rfl, j3, rfl⟩
    have ha3 := ha2.drewN j3
    have hbb3 := hbb2.drewN j3
    clear g2 ha2 hbb2
    go_wp2_with fail
    refine (words_ _ A B m m c d a b ha3 hbb3 (by omega)).mono ?_
    rw [← Hl4.out, ← Hml.out]
    rintro e w4 ⟨rfl, j4, rfl⟩
    have hdec : ((m1 : Int) == 0) = decide (m1 = 0) := by
      by_cases h : m1 = 0
      · subst h; rfl
      · rw [decide_eq_false h]; simp; omega
    clear Hml Hl4
    by_cases hm0 : m1 = 0
    · subst hm0
      rw [decide_eq_true (rfl : 0 = 0)]
      clear hdec z1
      go_wp2_with fail
      refine (alive_ _).mono ?_
      rintro e w7 ⟨rfl, hb7⟩
      go_wp2
      go_ret
      exact ⟨rfl, below_step hB2 (⟨hb7.os, hb7.tape, hb7.output, hb7.size, hb7.block⟩ : Below w2.heap.size w2 w7) (Nat.le_refl _)⟩
    · have e1 : decide (m1 = 0) = false := by simp [hm0]
      have e2 : ((m1 : Int) == 0) = false := by simp; omega
      rw [e1]
      clear hdec hm0 e1
      go_wp2_with fail
      refine (alive_ _).mono ?_
      rintro e w7 ⟨rfl, hb7⟩
      go_wp2
      go_ret
      exact ⟨rfl, below_step hB2 (⟨hb7.os, hb7.tape, hb7.output, hb7.size, hb7.block⟩ : Below w2.heap.size w2 w7) (Nat.le_refl _)⟩
  · have hno := dfE_no h0
    rw [← hna, ← hmb] at hno
    obtain ⟨l, hl⟩ : ∃ l, dfL a b = l := ⟨_, rfl⟩
    obtain ⟨z, hz⟩ : ∃ z, dfE a b = z := ⟨_, rfl⟩
    rw [hz] at h0
    have Hl := Lib.hid hl
    have Hz := Lib.hid hz
    clear hl hz hna hmb
    by_cases hnm : n = m
    · subst hnm
      have h4 : (1024 : Int) < (n : Int) := by have := hno rfl; omega
      clear hno
      go_enter Try.func6, Try.ntmps6
      go_wp2_with fail
      refine (diff w A B n n c d a b ha hb hnc hc hmd hd).mono ?_
      rw [Hz.out, Hl.out]
      rintro e w1 ⟨A1, m1, c1, rfl, g1, hb1⟩
      go_wp2_with fail
      refine (alive_ _).mono ?_
      rintro e w7 ⟨rfl, hb7⟩
      go_wp2
      go_ret
      exact ⟨rfl, below_step hb1 hb7 (Nat.le_refl _)⟩
    · have h4 : ((n : Int) == (m : Int)) = false := by simp; omega
      have h5 : ¬ (n : Int) = (m : Int) := by omega
      clear hno hnm
      go_enter Try.func6, Try.ntmps6
      go_wp2_with fail
      refine (diff w A B n m c d a b ha hb hnc hc hmd hd).mono ?_
      rw [Hz.out, Hl.out]
      rintro e w1 ⟨A1, m1, c1, rfl, g1, hb1⟩
      go_wp2_with fail
      refine (alive_ _).mono ?_
      rintro e w7 ⟨rfl, hb7⟩
      go_wp2
      go_ret
      exact ⟨rfl, below_step hb1 hb7 (Nat.le_refl _)⟩

set_option maxRecDepth 100000 in
theorem blocksDiffs_lifted (os : Os) (started : os.Started) (H : Type) (enc : TypeId × Value → H) :
    ReturnsInHanded {} Try.checked os 6 .any (Rows.blocksDiffsSpec.pre6 enc Try.prog Try.f6 Rows.blocksDiffsRow.domain false) (Rows.blocksDiffsSpec.post enc Try.prog Try.f6 false true false false) := by
  refine law_lifted (C := Try.checked) (tb := 4) own_ started (by kernel_rfl) Try.func6
    (ChangeSpec.witness6 (enc := enc) (C := Try.checked) false ⟨#[], #[.slice none 0 0, .slice none 0 0], []⟩ 8 (by kernel_rfl) (by kernel_rfl) (by kernel_rfl) (by kernel_rfl))
    rfl rfl Try.underlying4 laidOut_ (by kernel_rfl) (fun ds h => by match ds, h with | [_, _], _ => rfl) ?_
  intro W base args ds p hval0 hA0 _ hsz0
  have hval : ∀ (j : Nat) t v, Try.f6.params[j]? = some t → args[j]? = some v → Value.okWide Try.prog W .any base t v := hval0
  have hA : DataW.TrodAll enc Try.prog W 0 (fun _ => true) true Try.f6.params.toList args.toList ds p := hA0
  have hsz : (DataW.weightsEach Try.prog Try.f6.params.toList ds).all (· ≤ reachBytes) = true := hsz0
  clear hval0 hA0 hsz0
  rw [Try.params6] at hA hval hsz
  obtain ⟨v0, v1, d0, d1, p0, p1, rfl, rfl, rfl, h0, h1⟩ := trodAll_two hA
  obtain ⟨A0, n0, c0, xs0, rfl, r0, b0⟩ := arg_slice ops_ns Try.underlying23 (hval 0 _ v0 rfl rfl) h0 (weight_at hsz (j := 0) rfl rfl)
  obtain ⟨A1, n1, c1, xs1, rfl, r1, b1⟩ := arg_slice ops_ns Try.underlying23 (hval 1 _ v1 rfl rfl) h1 (weight_at hsz (j := 1) rfl rfl)
  obtain ⟨q1, q2, q3, q4, q5⟩ := ns_of r0
  obtain ⟨p1, p2, p3, p4, p5⟩ := ns_of r1
  exact blocksDiffs_walk W A0 A1 n0 n1 c0 c1 _ _ q1 q3 q2 q4 p1 p2 p4

/-- BlocksDiffs, for every input: the statement as it was given. -/
theorem blocksDiffs_holds : Rows.BlocksDiffsSaid :=
  OpenClaim.holds_of_wide 6 Try.f6 rfl rfl rfl rfl rfl rfl rfl ⟨rfl, rfl, rfl, rfl, rfl⟩ rfl rfl rfl rfl rfl (by kernel_rfl) Try.func6 (by kernel_rfl)
    (of_decide_eq_true (by kernel_rfl)) (by unfold Func.isWrapper; first | (rw [if_pos (by decide +kernel)]; kernel_rfl) | (rw [if_neg (by decide +kernel)]; exact ⟨rfl, rfl⟩))
    (fun os started H enc _ => blocksDiffs_lifted os started H enc)
end Go.Proofs.Ytfgoaedgiomlkaa
