/- Layer 17: agents and coordinators that nobody made answer an error, or nothing (BarrierNobody). No condition. -/
import Derived.Test.YtpjbeodnalgkfaaBarAr
set_option linter.all false
namespace Go.Proofs.Ytpjbeodnalgkfaa
open Go.ChangeShapes Go.WideShapes Go.ChangeAt Go.RowKit
namespace Bar
section
variable (w : World)
set_option maxRecDepth 100000 in
set_option maxHeartbeats 8000000 in
theorem nobody_walk (x : Calld) (y : Askd) : Calls Try.prog 8 #[.agg (calla x), .agg (aska y)] w fun r w' => r = .returned (.bool true) ∧ Below w.heap.size w w' := by
  have hb1 : Below w.heap.size w (w.alloc (.cells (calla x) 47)) := (Below.refl _ _).alloc (Nat.le_refl _) _
  have k1 : Blk (w.alloc (.cells (calla x) 47)) w.heap.size 47 (calla x) := Blk.new w _ _ rfl
  obtain ⟨w1, hw1⟩ : ∃ w1, w.alloc (.cells (calla x) 47) = w1 := ⟨_, rfl⟩
  obtain ⟨h, hh⟩ : ∃ h, w.heap.size = h := ⟨_, rfl⟩
  have hs1 : w1.heap.size = h + 1 := by rw [← hw1]; simp [hh]
  have Hw1 := Lib.hid hw1
  rw [hw1] at hb1 k1
  have k2 : Blk (w1.alloc (.cells (aska y) 30)) w1.heap.size 30 (aska y) := Blk.new w1 _ _ rfl
  have hb2 : Below w1.heap.size w1 (w1.alloc (.cells (aska y) 30)) := (Below.refl _ _).alloc (Nat.le_refl _) _
  obtain ⟨w2, hw2⟩ : ∃ w2, w1.alloc (.cells (aska y) 30) = w2 := ⟨_, rfl⟩
  have hs2 : w2.heap.size = h + 1 + 1 := by rw [← hw2]; simp [hs1]
  have Hw2 := Lib.hid hw2
  rw [hw2] at hb2 k2
  have k3 : Blk (w2.alloc (.cells #[.pointer none, .int .i64 0, .int .i64 0, .map none] 77)) w2.heap.size 77 #[.pointer none, .int .i64 0, .int .i64 0, .map none] := Blk.new w2 _ _ rfl
  have hb3 : Below w2.heap.size w2 (w2.alloc (.cells #[.pointer none, .int .i64 0, .int .i64 0, .map none] 77)) := (Below.refl _ _).alloc (Nat.le_refl _) _
  obtain ⟨w3, hw3⟩ : ∃ w3, w2.alloc (.cells #[.pointer none, .int .i64 0, .int .i64 0, .map none] 77) = w3 := ⟨_, rfl⟩
  have hs3 : w3.heap.size = h + 1 + 1 + 1 := by rw [← hw3]; simp [hs2]
  have Hw3 := Lib.hid hw3
  rw [hw3] at hb3 k3
  have k4 : Blk (w3.alloc (.cells #[.pointer none, .pointer (some ⟨h + 1 + 1, 0, none⟩)] 23)) w3.heap.size 23 #[.pointer none, .pointer (some ⟨h + 1 + 1, 0, none⟩)] := Blk.new w3 _ _ rfl
  have hb4 : Below w3.heap.size w3 (w3.alloc (.cells #[.pointer none, .pointer (some ⟨h + 1 + 1, 0, none⟩)] 23)) := (Below.refl _ _).alloc (Nat.le_refl _) _
  obtain ⟨w4, hw4⟩ : ∃ w4, w3.alloc (.cells #[.pointer none, .pointer (some ⟨h + 1 + 1, 0, none⟩)] 23) = w4 := ⟨_, rfl⟩
  have hs4 : w4.heap.size = h + 1 + 1 + 1 + 1 := by rw [← hw4]; simp [hs3]
  have Hw4 := Lib.hid hw4
  rw [hw4] at hb4 k4
  rw [hh] at k1
  rw [hs1] at k2
  rw [hs2] at k3
  rw [hs3] at k4
  have K1 := (((k1.keep hb2).keep hb3).keep hb4)
  have K2 := (k2.keep hb3).keep hb4
  have K3 := k3.keep hb4
  have hB : Below w.heap.size w w4 := ((hb1.trans (hb2.mono (by omega))).trans (hb3.mono (by omega))).trans (hb4.mono (by omega))
  have HB := Lib.hid hB
  have HH := Lib.hid hh
  have p0 := k4.cell (j := 0) (u := .pointer none) rfl
  have p1 := k4.cell (j := 1) (u := .pointer (some ⟨h + 1 + 1, 0, none⟩)) rfl
  have y0 := K2.cell (j := 0) (u := .int .i64 y.kd) rfl
  have y1 := K2.cell (j := 1) (u := .int .i64 y.id) rfl
  have c0 := K3.cell (j := 0) (u := .pointer none) rfl
  clear k1 k2 k3 K2 K3 hb1 hb2 hb3 hb4 hB hw1 hw2 hw3 hw4
  rw [hh] at HB
  go_enter Try.func8, Try.ntmps8
  go_wp2_with fail
  rw [Hw1.out, Hw2.out, Hw3.out, Hw4.out]
  clear hh hs1 hs2 hs3 k4 Hw1 Hw2 Hw3 Hw4
  go_loopw [15] (fun iv wr => ∃ i : Nat, i ≤ 2 ∧ iv = .int .i64 (i : Int) ∧ wr = w4) (fun iv _ => 2 - (intOf iv).toNat)
  case atStart => exact ⟨0, by omega, rfl, rfl⟩
  case round =>
    obtain ⟨i, hi, rfl, hwr⟩ := hrel
    subst hwr
    match i, hi with
    | 0, _ =>
      rw [show ((0 : Nat) : Int) = 0 from rfl]
      go_wp2_with fail
      refine (acrash_nil _).mono ?_
      rintro r w5 ⟨rfl, rfl⟩
      go_wp2_with fail
      refine (aorder_nil _ _ _).mono ?_
      rintro r w5 ⟨rfl, rfl⟩
      go_wp2_with fail
      refine (frozen_nil _).mono ?_
      rintro r w5 ⟨rfl, rfl⟩
      go_wp2_with fail
      refine (prepared_nil _).mono ?_
      rintro r w5 ⟨rfl, rfl⟩
      go_wp2_with fail
      refine (committed_nil _ _).mono ?_
      rintro r w5 ⟨rfl, rfl⟩
      go_wp2
      exact ⟨⟨1, by omega, rfl, by first | trivial | rfl⟩, by simp [intOf]⟩
    | 1, _ =>
      rw [show ((1 : Nat) : Int) = 1 from rfl]
      go_wp2_with fail
      refine (acrash_no _ _ c0).mono ?_
      rintro r w5 ⟨rfl, rfl⟩
      go_wp2_with fail
      refine (aorder_no _ _ c0 _ _).mono ?_
      rintro r w5 ⟨rfl, rfl⟩
      go_wp2_with fail
      refine (frozen_no _ _ c0).mono ?_
      rintro r w5 ⟨rfl, rfl⟩
      go_wp2_with fail
      refine (prepared_no _ _ c0).mono ?_
      rintro r w5 ⟨rfl, rfl⟩
      go_wp2_with fail
      refine (committed_no _ _ c0 _).mono ?_
      rintro r w5 ⟨rfl, rfl⟩
      go_wp2
      exact ⟨⟨2, by omega, rfl, by first | trivial | rfl⟩, by simp [intOf]⟩
    | 2, _ =>
      rw [show ((2 : Nat) : Int) = 2 from rfl]
      have k3 : Blk (wr.alloc (.cells #[.pointer none, .int .i64 0, .int .i64 0, .int .i64 0, .slice none 0 0, .map none] 80)) wr.heap.size 80 #[.pointer none, .int .i64 0, .int .i64 0, .int .i64 0, .slice none 0 0, .map none] := Blk.new wr _ _ rfl
      have hb3 : Below wr.heap.size wr (wr.alloc (.cells #[.pointer none, .int .i64 0, .int .i64 0, .int .i64 0, .slice none 0 0, .map none] 80)) := (Below.refl _ _).alloc (Nat.le_refl _) _
      obtain ⟨w5, hw5⟩ : ∃ w5, wr.alloc (.cells #[.pointer none, .int .i64 0, .int .i64 0, .int .i64 0, .slice none 0 0, .map none] 80) = w5 := ⟨_, rfl⟩
      obtain ⟨e, he⟩ : ∃ e, wr.heap.size = e := ⟨_, rfl⟩
      have hs5 : w5.heap.size = e + 1 := by rw [← hw5]; simp [he]
      have Hw5 := Lib.hid hw5
      have He := Lib.hid he
      rw [hw5] at k3 hb3
      have k4 : Blk (w5.alloc (.cells #[.pointer none, .pointer (some ⟨e, 0, none⟩)] 37)) w5.heap.size 37 #[.pointer none, .pointer (some ⟨e, 0, none⟩)] := Blk.new w5 _ _ rfl
      have hb4 : Below w5.heap.size w5 (w5.alloc (.cells #[.pointer none, .pointer (some ⟨e, 0, none⟩)] 37)) := (Below.refl _ _).alloc (Nat.le_refl _) _
      obtain ⟨w6, hw6⟩ : ∃ w6, w5.alloc (.cells #[.pointer none, .pointer (some ⟨e, 0, none⟩)] 37) = w6 := ⟨_, rfl⟩
      have Hw6 := Lib.hid hw6
      rw [hw6] at k4 hb4
      rw [he] at k3
      rw [hs5] at k4
      have K1' := (K1.keep hb3).keep hb4
      have hB6 : Below h w w6 := (HB.out.trans (hb3.mono (by omega))).trans (hb4.mono (by omega))
      have p0 := k4.cell (j := 0) (u := .pointer none) rfl
      have p1 := k4.cell (j := 1) (u := .pointer (some ⟨e, 0, none⟩)) rfl
      have x1 := K1'.cell (j := 1) (u := .int .i64 x.ag) rfl
      have x2 := K1'.cell (j := 2) (u := .int .i64 x.an) rfl
      have x3 := K1'.cell (j := 3) (u := .int .i64 x.id) rfl
      have c0 := (k3.keep hb4).cell (j := 0) (u := .pointer none) rfl
      have HB6 := Lib.hid hB6
      clear hw5 hw6 k3 k4 hb3 hb4 K1 K1' y0 y1 hB6 he hs4
      go_wp2_with fail
      rw [Hw5.out, He.out, Hw6.out]
      clear hs5 Hw5 Hw6 He
      go_loopw [49] (fun iv wr => ∃ i : Nat, i ≤ 2 ∧ iv = .int .i64 (i : Int) ∧ wr = w6) (fun iv _ => 2 - (intOf iv).toNat)
      case atStart => exact ⟨0, by omega, rfl, rfl⟩
      case round =>
        obtain ⟨i, hi, rfl, hwr⟩ := hrel
        subst hwr
        match i, hi with
        | 0, _ =>
          rw [show ((0 : Nat) : Int) = 0 from rfl]
          go_wp2_with fail
          refine (phase_nil _).mono ?_
          rintro r w5 ⟨rfl, rfl⟩
          go_wp2_with fail
          refine (ccrash_nil _).mono ?_
          rintro r w5 ⟨rfl, rfl⟩
          go_wp2_with fail
          refine (begin_nil _ _).mono ?_
          rintro r w5 ⟨rfl, rfl⟩
          go_wp2_with fail
          refine (cstep_nil _).mono ?_
          rintro r w5 ⟨rfl, rfl⟩
          go_wp2_with fail
          refine (hear_nil _ _ _ _).mono ?_
          rintro r w5 ⟨rfl, rfl⟩
          go_wp2_with fail
          refine (cabort_nil _).mono ?_
          rintro r w5 ⟨rfl, rfl⟩
          go_wp2_with fail
          refine (state_nil _ _).mono ?_
          rintro r w5 ⟨rfl, rfl⟩
          go_wp2
          exact ⟨⟨1, by omega, rfl, by first | trivial | rfl⟩, by simp [intOf]⟩
        | 1, _ =>
          rw [show ((1 : Nat) : Int) = 1 from rfl]
          go_wp2_with fail
          refine (phase_no _ _ c0).mono ?_
          rintro r w5 ⟨rfl, rfl⟩
          go_wp2_with fail
          refine (ccrash_no _ _ c0).mono ?_
          rintro r w5 ⟨rfl, rfl⟩
          go_wp2_with fail
          refine (begin_no _ _ c0 _).mono ?_
          rintro r w5 ⟨rfl, rfl⟩
          go_wp2_with fail
          refine (cstep_no _ _ c0).mono ?_
          rintro r w5 ⟨rfl, rfl⟩
          go_wp2_with fail
          refine (hear_no _ _ c0 _ _ _).mono ?_
          rintro r w5 ⟨rfl, rfl⟩
          go_wp2_with fail
          refine (cabort_no _ _ c0).mono ?_
          rintro r w5 ⟨rfl, rfl⟩
          go_wp2_with fail
          refine (state_no _ _ c0 _).mono ?_
          rintro r w5 ⟨rfl, rfl⟩
          go_wp2
          exact ⟨⟨2, by omega, rfl, by first | trivial | rfl⟩, by simp [intOf]⟩
        | 2, _ =>
          rw [show ((2 : Nat) : Int) = 2 from rfl]
          go_wp2_with fail
          refine (alive_ wr).mono ?_
          rintro r w7 ⟨rfl, hb7⟩
          go_wp2
          go_ret
          exact ⟨rfl, by rw [HH.out]; exact HB6.out.trans (hb7.mono (by have := HB6.out.size; rw [HH.out] at this; exact this))⟩
end
end Bar
open Bar

set_option maxRecDepth 100000 in
theorem barrierNobody_lifted (os : Os) (started : os.Started) (H : Type) (enc : TypeId × Value → H) :
    ReturnsInHanded {} Try.checked os 8 .any (Rows.barrierNobodySpec.pre6 enc Try.prog Try.f8 Rows.barrierNobodyRow.domain false) (Rows.barrierNobodySpec.post enc Try.prog Try.f8 false true false false) := by
  refine law_lifted (C := Try.checked) (tb := 4) own_ started (by kernel_rfl) Try.func8
    (ChangeSpec.witness6 (enc := enc) (C := Try.checked) false ⟨#[], #[.agg #[.int .u8 0, .int .i64 0, .int .i64 0, .int .i64 0], .agg #[.int .i64 0, .int .i64 0, .bool false]], []⟩ 8 (by kernel_rfl) (by kernel_rfl) (by kernel_rfl) (by kernel_rfl))
    rfl rfl Try.underlying4 laidOut_ (by kernel_rfl) (fun ds h => by match ds, h with | [_, _], _ => rfl) ?_
  intro W base args ds p hval0 hA0 _ hsz0
  have hval : ∀ (j : Nat) t v, Try.f8.params[j]? = some t → args[j]? = some v → Value.okWide Try.prog W .any base t v := hval0
  have hA : DataW.TrodAll enc Try.prog W 0 (fun _ => true) true Try.f8.params.toList args.toList ds p := hA0
  have hsz : (DataW.weightsEach Try.prog Try.f8.params.toList ds).all (· ≤ reachBytes) = true := hsz0
  clear hval0 hA0 hsz0
  rw [Try.params8] at hA hval hsz
  obtain ⟨v0, v1, d0, d1, p0, p1, rfl, rfl, rfl, h0, h1⟩ := trodAll_two hA
  obtain ⟨cs0, a0, rfl, r0, b0⟩ := arg_struct ops_call Try.underlying47 (hval 0 _ v0 rfl rfl) h0 (weight_at hsz (j := 0) rfl rfl)
  obtain ⟨cs1, a1, rfl, r1, b1⟩ := arg_struct ops_ask Try.underlying30 (hval 1 _ v1 rfl rfl) h1 (weight_at hsz (j := 1) rfl rfl)
  exact by
    obtain ⟨rfl, hm⟩ := call_arr r0
    obtain ⟨rfl, hk⟩ := ask_arr r1
    exact nobody_walk W (toCall a0) (toAsk a1)

/-- BarrierNobody, for every input: the statement as it was given. -/
theorem barrierNobody_holds : Rows.BarrierNobodySaid :=
  OpenClaim.holds_of_wide 8 Try.f8 rfl rfl rfl rfl rfl rfl rfl ⟨rfl, rfl, rfl, rfl, rfl⟩ rfl rfl rfl rfl rfl (by kernel_rfl) Try.func8 (by kernel_rfl)
    (of_decide_eq_true (by kernel_rfl)) (by unfold Func.isWrapper; first | (rw [if_pos (by decide +kernel)]; kernel_rfl) | (rw [if_neg (by decide +kernel)]; exact ⟨rfl, rfl⟩))
    (fun os started H enc _ => barrierNobody_lifted os started H enc)
end Go.Proofs.Ytpjbeodnalgkfaa
