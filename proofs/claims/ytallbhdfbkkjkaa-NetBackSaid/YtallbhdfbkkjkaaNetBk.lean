/- Layer 15: what is packed is unpacked (NetBack). No condition. -/
import Derived.Test.YtallbhdfbkkjkaaNetAr
import Derived.Test.YtallbhdfbkkjkaaNetE
set_option linter.all false
namespace Go.Proofs.Ytallbhdfbkkjkaa
open Go.ChangeShapes Go.WideShapes Go.ChangeAt Go.RowKit
namespace Net
section
variable (w : World)
set_option maxRecDepth 100000 in
set_option maxHeartbeats 4000000 in
theorem back_walk (m : Ms) (X : Option Addr) (n c : Nat) (h : Mdt w m X n c) :
    Calls Try.prog 4 #[.agg (ma m (.slice X n c))] w fun e w' => e = .returned (.bool true) ∧ Below w.heap.size w w' := by
  have hac := Blk.new w 24 (ma m (.slice X n c)) rfl
  obtain ⟨w1, hw1⟩ : ∃ w1, w.alloc (.cells (ma m (.slice X n c)) 24) = w1 := ⟨_, rfl⟩
  have hs1 : w1.heap.size = w.heap.size + 1 := by rw [← hw1]; simp
  have hb1 : Below w.heap.size w w1 := by rw [← hw1]; exact (Below.refl _ _).alloc (Nat.le_refl _) _
  rw [hw1] at hac
  have h1 := h.below hb1
  obtain ⟨d0, d1, d2, d3, d4, d5, d6⟩ := ma_blk hac
  by_cases hM : MayM m
  · have Hp := Lib.hid (pack_yes hM)
    have hu := un_pack hM
    have hl := msgB_length m
    have hl2 := hM.2.2.2.2.2.2
    obtain ⟨x, hx⟩ : ∃ x, msgB m = x := ⟨_, rfl⟩
    rw [hx] at hu hl Hp
    obtain ⟨xn, hxn⟩ : ∃ n, x.length = n := ⟨_, rfl⟩
    have Hxn := Lib.hid hxn
    have hx1 : xn ≤ 1300 := by omega
    have Hu := Lib.hid hu
    clear hM hu hl hl2 hx hxn
    go_enter Try.func4, Try.ntmps4
    go_wp2_with fail
    refine (pack_ w1 m X n c h1).mono ?_
    rw [Hp.out.1, Hp.out.2, Hxn.out]
    rintro e w2 ⟨v2, rfl, hown2, hb2⟩
    obtain ⟨A2, c2, rfl, hc2, hm2, ha2⟩ := own_form hown2
    unfold maxLen at hm2
    have hac2 := hac.keep hb2
    have hB2 := below_step hb1 hb2 (by omega)
    have h2 := h.below hB2
    clear d0 d1 d2 d3 d4 d5 d6 hac hb2
    go_wp2_with fail
    refine (unpack_ w2 A2 xn c2 x (bs_own hown2) ha2 hc2 (by omega) (by omega)).mono ?_
    rintro e w3 hU
    obtain ⟨Y, p, q, rfl, hM3, hown3, hb3⟩ := hU.got (by rw [Hxn.out]; omega)
    rw [Hu.out.2] at hM3
    rw [Hu.out.1, Hu.out.2]
    have hB3 := below_step hB2 hb3 (by omega)
    have hm4 : Blk (w3.alloc (.cells (ma m (.slice Y p q)) 24)) w3.heap.size 24 (ma m (.slice Y p q)) := Blk.new w3 _ _ rfl
    have hb4 : Below w3.heap.size w3 (w3.alloc (.cells (ma m (.slice Y p q)) 24)) := (Below.refl _ _).alloc (Nat.le_refl _) _
    have hM4 := hM3.below hb4
    have hac4 := (hac2.keep hb3).keep hb4
    have hB4 := below_step hB3 hb4 (by omega)
    have h4 := h.below hB4
    have hR := rsame_ (w3.alloc (.cells (ma m (.slice Y p q)) 24)) m m Y X p q n c hM4 h4
    rw [decide_eq_true rfl] at hR
    obtain ⟨d0, d1, d2, d3, d4, d5, d6⟩ := ma_blk hac4
    obtain ⟨q0, q1, q2, q3, q4, q5, q6⟩ := ma_blk hm4
    clear hU hM3 hM4 hac2 hac4 hb3 hb4 hB2 hB3 h2 h4 hown2 hown3 hm4
    go_wp2_with fail
    refine hR.mono ?_
    rintro e w5 ⟨rfl, hb5⟩
    have hB5 := below_step hB4 hb5 (by omega)
    go_wp2_with fail
    refine (alive_ w5).mono ?_
    rintro e w6 ⟨rfl, hb6⟩
    go_wp2
    go_ret
    exact ⟨rfl, below_step hB5 hb6 (by omega)⟩
  · have Hp := Lib.hid (pack_no hM)
    clear hM
    go_enter Try.func4, Try.ntmps4
    go_wp2_with fail
    refine (pack_ w1 m X n c h1).mono ?_
    rw [Hp.out.1, Hp.out.2]
    rintro e w2 ⟨v2, rfl, hown2, hb2⟩
    obtain ⟨A2, c2, rfl, hc2, hm2, ha2⟩ := own_form hown2
    have hB2 := below_step hb1 hb2 (by omega)
    simp only [List.length_nil]
    go_wp2_with fail
    refine (alive_ w2).mono ?_
    rintro e w6 ⟨rfl, hb6⟩
    go_wp2
    go_ret
    exact ⟨rfl, below_step hB2 hb6 (by omega)⟩
end
end Net
open Net

set_option maxRecDepth 100000 in
theorem netBack_lifted (os : Os) (started : os.Started) (H : Type) (enc : TypeId × Value → H) :
    ReturnsInHanded {} Try.checked os 4 .any (Rows.netBackSpec.pre6 enc Try.prog Try.f4 Rows.netBackRow.domain false) (Rows.netBackSpec.post enc Try.prog Try.f4 false true false false) := by
  refine law_lifted (C := Try.checked) (tb := 4) own_ started (by kernel_rfl) Try.func4
    (ChangeSpec.witness6 (enc := enc) (C := Try.checked) false ⟨#[], #[.agg #[.int .i64 0, .int .i64 0, .int .i64 0, .int .i64 0, .int .i64 0, .int .i64 0, .slice none 0 0]], []⟩ 8 (by kernel_rfl) (by kernel_rfl) (by kernel_rfl) (by kernel_rfl))
    rfl rfl Try.underlying4 laidOut_ (by kernel_rfl) (fun ds h => by match ds, h with | [_], _ => rfl) ?_
  intro W base args ds p hval0 hA0 _ hsz0
  have hval : ∀ (j : Nat) t v, Try.f4.params[j]? = some t → args[j]? = some v → Value.okWide Try.prog W .any base t v := hval0
  have hA : DataW.TrodAll enc Try.prog W 0 (fun _ => true) true Try.f4.params.toList args.toList ds p := hA0
  have hsz : (DataW.weightsEach Try.prog Try.f4.params.toList ds).all (· ≤ reachBytes) = true := hsz0
  clear hval0 hA0 hsz0
  rw [Try.params4] at hA hval hsz
  obtain ⟨v0, d0, rfl, rfl, h0⟩ := trodAll_one hA
  obtain ⟨cs0, a0, rfl, r0, b0⟩ := arg_struct ops_ms Try.underlying24 (hval 0 _ v0 rfl rfl) h0 (weight_at hsz (j := 0) rfl rfl)
  exact by
    obtain ⟨X, n, c, rfl, hm⟩ := ms_arr r0
    exact back_walk W (toMs a0) X n c hm

/-- NetBack, for every input: the statement as it was given. -/
theorem netBack_holds : Rows.NetBackSaid :=
  OpenClaim.holds_of_wide 4 Try.f4 rfl rfl rfl rfl rfl rfl rfl ⟨rfl, rfl, rfl, rfl, rfl⟩ rfl rfl rfl rfl rfl (by kernel_rfl) Try.func4 (by kernel_rfl)
    (of_decide_eq_true (by kernel_rfl)) (by unfold Func.isWrapper; first | (rw [if_pos (by decide +kernel)]; kernel_rfl) | (rw [if_neg (by decide +kernel)]; exact ⟨rfl, rfl⟩))
    (fun os started H enc _ => netBack_lifted os started H enc)
end Go.Proofs.Ytallbhdfbkkjkaa
