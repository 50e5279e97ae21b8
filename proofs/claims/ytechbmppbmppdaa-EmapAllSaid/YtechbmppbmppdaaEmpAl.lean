/- Proves EmapAll of layer 6 (emap), for every input, with no condition: what is cut away and what is part, put together again, are all. -/
import Derived.Test.YtechbmppbmppdaaEmpW
namespace Go.Proofs.Ytechbmppbmppdaa
open Go.ChangeShapes Go.WideShapes Go.ChangeAt Go.RowKit

set_option maxRecDepth 100000 in
set_option maxHeartbeats 2000000 in
theorem emapAll_no (w : World) (A : Option Addr) (n c : Nat) (l : List Ext) (h : Es w A n l) (hn : n ≤ 9223372036854775807) (o k : Int) (fo : I64 o) (fk : I64 k) (hb : ¬ (rightB l = true ∧ rangeB o k = true)) :
    Calls Try.prog 8 #[.slice A n c, .int .i64 o, .int .i64 k] w fun e w' => e = .returned (.bool true) ∧ Below w.heap.size w w' := by
  go_enter Try.func8, Try.ntmps8
  go_wp2_with fail
  refine (cut_no w A n c l o k h hn fo fk hb).mono ?_
  rintro e w1 ⟨rfl, hb1⟩
  go_wp2_with fail
  refine (part_no w1 A n c l o k (h.below hb1) hn fo fk hb).mono ?_
  rintro e w2 ⟨rfl, hb2⟩
  go_wp2_with fail
  refine (alive_ _).mono ?_
  rintro e w6 ⟨rfl, hb6⟩
  go_wp2
  go_ret
  exact ⟨rfl, below_step (below_step hb1 hb2 (Nat.le_refl _)) hb6 (Nat.le_refl _)⟩
set_option maxRecDepth 100000 in
set_option maxHeartbeats 4000000 in
theorem emapAll_ok (w : World) (A : Option Addr) (n c : Nat) (l : List Ext) (h : Es w A n l) (hn : n ≤ 9223372036854775807) (o k : Int) (fo : I64 o) (fk : I64 k) (hr : rightB l = true) (hm : rangeB o k = true) :
    Calls Try.prog 8 #[.slice A n c, .int .i64 o, .int .i64 k] w fun e w' => e = .returned (.bool true) ∧ Below w.heap.size w w' := by
  have Hback := Lib.hid (back_all hr hm)
  have hcm := (cut_is hr hm).1
  have hpm := part_right (a := o) (b := o + k) hr (range_is.1 hm).1
  have hps := right_short hpm
  go_enter Try.func8, Try.ntmps8
  go_wp2_with fail
  refine (cut_ok w A n c l o k h hr hm).mono ?_
  rintro e w1 ⟨v1, m1, rfl, ho1, hb1⟩
  obtain ⟨A1, c1, rfl, g1⟩ := got_of ho1 (mays_right hcm)
  go_wp2_with fail
  refine (part_ok w1 A n c l o k (h.below hb1) hr hm).mono ?_
  rintro e w2 ⟨v2, m2, rfl, ho2, hb2⟩
  obtain ⟨A2, c2, rfl, g2⟩ := got_of ho2 (mays_right hpm)
  have hB2 := below_step hb1 hb2 (Nat.le_refl _)
  have g12 := g1.keep hb2
  have hml := g2.mays
  have e2 := g2.es
  have hle2 := g2.le
  clear ho1 ho2 g1 g2 hb1 hb2
  generalize cutL l o k = cuts at *
  generalize partL l o (o + k) = pars at *
  have Hl := Lib.hid e2.len
  go_wp2_with fail
  go_loopw [7, 43] (fun fv iv wr => ∃ (j : Nat) (cur : List Ext) (A' : Option Addr) (m' c' : Nat), j ≤ m2 ∧ iv = .int .i64 (j : Int) ∧ fv = .slice A' m' c' ∧ Got wr w.heap.size A' m' c' cur ∧ rightB cur = true ∧ (pars.drop j).foldl putL cur = l ∧ Below w2.heap.size w2 wr) (fun _ iv _ => m2 - (intOf iv).toNat)
  case atStart => exact ⟨0, cuts, A1, m1, c1, Nat.zero_le _, rfl, rfl, g12, hcm, Hback.out, Below.refl _ _⟩
  case round =>
    obtain ⟨j, cur, A', m', c', hj, rfl, rfl, hg, hcr, hfold, hb⟩ := hrel
    have hbb := below_step hB2 hb (Nat.le_refl _)
    have hbs := hbb.size
    by_cases hlt : j < m2
    · have hil : (j : Int) < (m2 : Int) := by omega
      obtain ⟨q, p, rfl, x, hx, fx, d0, d1, d2, d3⟩ := (e2.below hb).at_ hlt
      have hxm := hml x (List.mem_of_getElem? hx)
      rw [drop_of hx] at hfold
      have Hf := Lib.hid (show (pars.drop (j + 1)).foldl putL (putL cur x) = l from hfold)
      have Hcr := Lib.hid (put_is hcr hxm).1
      have hba : Below wr.heap.size wr (wr.alloc (.cells #[.int .i64 x.off, .int .i64 x.len, .int .i64 x.phys, .int .i64 x.birth] 32)) := (Below.refl _ _).alloc (Nat.le_refl _) _
      have hg1 := hg.keep hba
      have hB1 := below_step hb hba (Nat.le_refl _)
      have hs1 : w.heap.size ≤ (wr.alloc (.cells #[.int .i64 x.off, .int .i64 x.len, .int .i64 x.phys, .int .i64 x.birth] 32)).heap.size := Nat.le_trans hbs hba.size
      clear hfold hg h hb hbb e2
      go_wp2_with fail
      refine (put_ok _ A' m' c' cur x hg1.es hcr hxm).mono ?_
      rintro e w3 ⟨v3, m3, rfl, ho3, hb3⟩
      obtain ⟨A3, c3, rfl, g3⟩ := got_of ho3 (mays_right Hcr.out)
      go_wp2
      go_roundw
      case rel => exact ⟨j + 1, _, A3, m3, c3, by omega, by go_num, rfl, g3.mono hs1, Hcr.out, Hf.out, below_step hB1 hb3 (Nat.le_refl _)⟩
      case measure => simp [intOf]; omega
    · have hin : (m2 : Int) ≤ (j : Int) := by omega
      have hd : pars.drop j = [] := list_done Hl.out (by omega)
      rw [hd] at hfold
      have hcl : cur = l := hfold
      have hgl : Got wr w.heap.size A' m' c' l := hcl ▸ hg
      have hel := h.below hbb
      clear hfold hd hcl hg h
      go_wp2_with fail
      refine (same_ wr A' A m' n c' c l hgl.es hel hgl.le).mono ?_
      rintro e w5 ⟨k5, rfl, rfl⟩
      go_wp2_with fail
      refine (alive_ _).mono ?_
      rintro e w6 ⟨rfl, hb6⟩
      go_wp2
      go_ret
      exact ⟨rfl, below_step hbb (⟨hb6.os, hb6.tape, hb6.output, hb6.size, hb6.block⟩ : Below wr.heap.size wr w6) (Nat.le_refl _)⟩
theorem emapAll_walk (w : World) (A : Option Addr) (n c : Nat) (l : List Ext) (h : Es w A n l) (hn : n ≤ 9223372036854775807) (o k : Int) (fo : I64 o) (fk : I64 k) :
    Calls Try.prog 8 #[.slice A n c, .int .i64 o, .int .i64 k] w fun e w' => e = .returned (.bool true) ∧ Below w.heap.size w w' := by
  by_cases hb : rightB l = true ∧ rangeB o k = true
  · exact emapAll_ok w A n c l h hn o k fo fk hb.1 hb.2
  · exact emapAll_no w A n c l h hn o k fo fk hb


set_option maxRecDepth 100000 in
theorem emapAll_lifted (os : Os) (started : os.Started) (H : Type) (enc : TypeId × Value → H) :
    ReturnsInHanded {} Try.checked os 8 .any (Rows.emapAllSpec.pre6 enc Try.prog Try.f8 Rows.emapAllRow.domain false) (Rows.emapAllSpec.post enc Try.prog Try.f8 false true false false) := by
  refine law_lifted (C := Try.checked) (tb := 4) own_ started (by kernel_rfl) Try.func8
    (ChangeSpec.witness6 (enc := enc) (C := Try.checked) false ⟨#[], #[.slice none 0 0, .int .i64 0, .int .i64 0], []⟩ 8 (by kernel_rfl) (by kernel_rfl) (by kernel_rfl) (by kernel_rfl))
    rfl rfl Try.underlying4 laidOut_ (by kernel_rfl) (fun ds h => by match ds, h with | [_, _, _], _ => rfl) ?_
  intro W base args ds p hval0 hA0 _ hsz0
  have hval : ∀ (j : Nat) t v, Try.f8.params[j]? = some t → args[j]? = some v → Value.okWide Try.prog W .any base t v := hval0
  have hA : DataW.TrodAll enc Try.prog W 0 (fun _ => true) true Try.f8.params.toList args.toList ds p := hA0
  have hsz : (DataW.weightsEach Try.prog Try.f8.params.toList ds).all (· ≤ reachBytes) = true := hsz0
  clear hval0 hA0 hsz0
  rw [Try.params8] at hA hval hsz
  obtain ⟨v0, v1, v2, d0, d1, d2, p0, p1, p2, rfl, rfl, rfl, h0, h1, h2⟩ := trodAll_three hA
  obtain ⟨A0, n0, c0, xs0, rfl, r0, b0⟩ := arg_slice ops_exts Try.underlying22 (hval 0 _ v0 rfl rfl) h0 (weight_at hsz (j := 0) rfl rfl)
  obtain ⟨z1, rfl, hz1⟩ := arg_int _ _ Try.underlying3 (hval 1 _ v1 rfl rfl) h1 wf_i64
  obtain ⟨z2, rfl, hz2⟩ := arg_int _ _ Try.underlying3 (hval 2 _ v2 rfl rfl) h2 wf_i64
  obtain ⟨es0, hn0, hc0, _⟩ := exts_es r0
  exact emapAll_walk W A0 n0 c0 _ es0 (by omega) z1 z2 hz1 hz2

/-- EmapAll, for every input: the statement as it was given. -/
theorem emapAll_holds : Rows.EmapAllSaid :=
  OpenClaim.holds_of_wide 8 Try.f8 rfl rfl rfl rfl rfl rfl rfl ⟨rfl, rfl, rfl, rfl, rfl⟩ rfl rfl rfl rfl rfl (by kernel_rfl) Try.func8 (by kernel_rfl)
    (of_decide_eq_true (by kernel_rfl)) (by unfold Func.isWrapper; first | (rw [if_pos (by decide +kernel)]; kernel_rfl) | (rw [if_neg (by decide +kernel)]; exact ⟨rfl, rfl⟩))
    (fun os started H enc _ => emapAll_lifted os started H enc)
end Go.Proofs.Ytechbmppbmppdaa
