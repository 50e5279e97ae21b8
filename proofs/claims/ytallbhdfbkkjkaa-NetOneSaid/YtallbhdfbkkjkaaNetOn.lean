/- Layer 15: what is unpacked is packed to the same bytes (NetOne). No condition. -/
import Derived.Test.YtallbhdfbkkjkaaNetAr
import Derived.Test.YtallbhdfbkkjkaaNetE
set_option linter.all false
namespace Go.Proofs.Ytallbhdfbkkjkaa
open Go.ChangeShapes Go.WideShapes Go.ChangeAt Go.RowKit
namespace Net
section
variable (w : World)
set_option maxRecDepth 100000 in
set_option maxHeartbeats 4000000 in
theorem one_walk (A : Option Addr) (n c : Nat) (x : List UInt8) (hr : Bs w A n x) (hA : A = none → n = 0 ∧ c = 0) (hnc : n ≤ c) (hc : c ≤ 9223372036854775807) (hnb : n ≤ 140737488351300) :
    Calls Try.prog 5 #[.slice A n c] w fun e w' => e = .returned (.bool true) ∧ Below w.heap.size w w' := by
  have Hl := Lib.hid hr.len
  by_cases hE : unE x = 0
  · obtain ⟨hM, hB⟩ := pack_un hE
    have HE := Lib.hid hE
    obtain ⟨m, hm⟩ : ∃ m, unV x = m := ⟨_, rfl⟩
    have Hm := Lib.hid hm
    rw [hm] at hM hB
    have hp := pack_yes hM
    rw [hB] at hp
    have Hp := Lib.hid hp
    clear hE hM hB hm hp
    go_enter Try.func5, Try.ntmps5
    go_wp2_with fail
    refine (unpack_ w A n c x hr hA hnc hc hnb).mono ?_
    rintro e w1 hU
    obtain ⟨Y, p, q, rfl, hM1, hown1, hb1⟩ := hU.got (by have := Hl.out; omega)
    rw [Hm.out] at hM1
    rw [HE.out, Hm.out]
    have hm2 : Blk (w1.alloc (.cells (ma m (.slice Y p q)) 24)) w1.heap.size 24 (ma m (.slice Y p q)) := Blk.new w1 _ _ rfl
    have hb2 : Below w1.heap.size w1 (w1.alloc (.cells (ma m (.slice Y p q)) 24)) := (Below.refl _ _).alloc (Nat.le_refl _) _
    have hM2 := hM1.below hb2
    have hB2 := below_step hb1 hb2 (Nat.le_refl _)
    have hP := pack_ (w1.alloc (.cells (ma m (.slice Y p q)) 24)) m Y p q hM2
    rw [Hp.out.1, Hp.out.2] at hP
    obtain ⟨q0, q1, q2, q3, q4, q5, q6⟩ := ma_blk hm2
    clear hU hM1 hM2 hm2 hb1 hb2 hown1
    go_wp2_with fail
    refine hP.mono ?_
    rw [← Hl.out]
    rintro e w3 ⟨v3, rfl, hown3, hb3⟩
    obtain ⟨A3, c3, rfl, hc3, hm3, ha3⟩ := own_form hown3
    have hB3 := below_step hB2 hb3 (Nat.le_refl _)
    have hS := same_ A3 A n c3 n c x x w3 (bs_own hown3) (hr.below hB3) (fun h => (ha3 h).1) (fun h => (hA h).1)
    rw [beq_self_eq_true] at hS
    clear hb3 hP q0 q1 q2 q3 q4 q5 q6
    go_wp2_with fail
    refine hS.mono ?_
    rintro e w4 ⟨rfl, rfl⟩
    go_wp2_with fail
    refine (alive_ w3).mono ?_
    rintro e w6 ⟨rfl, hb6⟩
    go_wp2
    go_ret
    exact ⟨rfl, below_step hB3 hb6 (Nat.le_refl _)⟩
  · have hv := Lib.hid (unV_no hE)
    have hne : ((unE x) == 0) = false := by simpa using hE
    obtain ⟨z, hz⟩ : ∃ z, unE x = z := ⟨_, rfl⟩
    rw [hz] at hE hne
    have Hz := Lib.hid hz
    clear hz
    go_enter Try.func5, Try.ntmps5
    go_wp2_with fail
    refine (unpack_ w A n c x hr hA hnc hc hnb).mono ?_
    rintro e w1 hU
    obtain ⟨Y, p, q, rfl, hM1, hown1, hb1⟩ := hU.got (by have := Hl.out; omega)
    rw [hv.out] at hM1
    rw [Hz.out, hv.out]
    have hm2 : Blk (w1.alloc (.cells (ma zM (.slice Y p q)) 24)) w1.heap.size 24 (ma zM (.slice Y p q)) := Blk.new w1 _ _ rfl
    have hb2 : Below w1.heap.size w1 (w1.alloc (.cells (ma zM (.slice Y p q)) 24)) := (Below.refl _ _).alloc (Nat.le_refl _) _
    have hM2 := hM1.below hb2
    have hB2 := below_step hb1 hb2 (Nat.le_refl _)
    have hzm : ∀ W, Mdt W zM none 0 0 := fun W => ⟨Bs.nil, fun _ => ⟨rfl, rfl⟩, Nat.le_refl _, by omega, by omega, zfit⟩
    have hS := rsame_ (w1.alloc (.cells (ma zM (.slice Y p q)) 24)) zM zM Y none p q 0 0 hM2 (hzm _)
    rw [decide_eq_true rfl] at hS
    obtain ⟨q0, q1, q2, q3, q4, q5, q6⟩ := ma_blk hm2
    clear hU hM1 hM2 hm2 hb1 hb2 hown1
    go_wp2_with fail
    refine hS.mono ?_
    rintro e w4 ⟨rfl, hb4⟩
    have hB4 := below_step hB2 hb4 (Nat.le_refl _)
    go_wp2_with fail
    refine (alive_ w4).mono ?_
    rintro e w6 ⟨rfl, hb6⟩
    go_wp2
    go_ret
    exact ⟨rfl, below_step hB4 hb6 (Nat.le_refl _)⟩
end
end Net
open Net

set_option maxRecDepth 100000 in
theorem netOne_lifted (os : Os) (started : os.Started) (H : Type) (enc : TypeId × Value → H) :
    ReturnsInHanded {} Try.checked os 5 .any (Rows.netOneSpec.pre6 enc Try.prog Try.f5 Rows.netOneRow.domain false) (Rows.netOneSpec.post enc Try.prog Try.f5 false true false false) := by
  refine law_lifted (C := Try.checked) (tb := 4) own_ started (by kernel_rfl) Try.func5
    (ChangeSpec.witness6 (enc := enc) (C := Try.checked) false ⟨#[], #[.slice none 0 0], []⟩ 8 (by kernel_rfl) (by kernel_rfl) (by kernel_rfl) (by kernel_rfl))
    rfl rfl Try.underlying4 laidOut_ (by kernel_rfl) (fun ds h => by match ds, h with | [_], _ => rfl) ?_
  intro W base args ds p hval0 hA0 _ hsz0
  have hval : ∀ (j : Nat) t v, Try.f5.params[j]? = some t → args[j]? = some v → Value.okWide Try.prog W .any base t v := hval0
  have hA : DataW.TrodAll enc Try.prog W 0 (fun _ => true) true Try.f5.params.toList args.toList ds p := hA0
  have hsz : (DataW.weightsEach Try.prog Try.f5.params.toList ds).all (· ≤ reachBytes) = true := hsz0
  clear hval0 hA0 hsz0
  rw [Try.params5] at hA hval hsz
  obtain ⟨v0, d0, rfl, rfl, h0⟩ := trodAll_one hA
  obtain ⟨A0, n0, c0, xs0, rfl, r0, b0⟩ := arg_slice ops_bytes Try.underlying22 (hval 0 _ v0 rfl rfl) h0 (weight_at hsz (j := 0) rfl rfl)
  obtain ⟨hb0, hn0, ha0, hc0⟩ := bs_shp r0
  exact by
    exact one_walk W A0 n0 c0 xs0 hb0 ha0 hn0 (by omega) (by omega)

/-- NetOne, for every input: the statement as it was given. -/
theorem netOne_holds : Rows.NetOneSaid :=
  OpenClaim.holds_of_wide 5 Try.f5 rfl rfl rfl rfl rfl rfl rfl ⟨rfl, rfl, rfl, rfl, rfl⟩ rfl rfl rfl rfl rfl (by kernel_rfl) Try.func5 (by kernel_rfl)
    (of_decide_eq_true (by kernel_rfl)) (by unfold Func.isWrapper; first | (rw [if_pos (by decide +kernel)]; kernel_rfl) | (rw [if_neg (by decide +kernel)]; exact ⟨rfl, rfl⟩))
    (fun os started H enc _ => netOne_lifted os started H enc)
end Go.Proofs.Ytallbhdfbkkjkaa
