/- Layer 16: an end that nobody made answers an error; loads that were handed in, or answered, may be written over (SessNobody). No condition. -/
import Derived.Test.YtlmaelbalmjlbaaSesAr
set_option linter.all false
namespace Go.Proofs.Ytlmaelbalmjlbaa
open Go.ChangeShapes Go.WideShapes Go.ChangeAt Go.RowKit
namespace Ses
open Net
def nbM : Ms := ⟨0, 1, 1, 1, 1, 0, [97, 98]⟩
def nbA : En := sndS (newS 0 1 1) [97, 98]
theorem nb1 : sndE (newS 0 1 1) [97, 98] = 0 := by decide
theorem nb2 : stpL nbA = [nbM] := by rfl
theorem nb3 : stpL (stpS nbA) = [nbM] := by rfl
theorem aa_all {w : World} {g : Nat} {T : TypeId} {a : Act} {u v : Value} (h : Blk w g T (aa a u v)) :
    w.cell? ⟨g, 0, none⟩ = some (.int .u8 (a.kd : Int)) ∧ w.cell? ⟨g, 1, none⟩ = some u ∧ w.cell? ⟨g, 2, none⟩ = some (.int .i64 a.m.fr) ∧ w.cell? ⟨g, 3, none⟩ = some (.int .i64 a.m.to) ∧ w.cell? ⟨g, 4, none⟩ = some (.int .i64 a.m.k) ∧ w.cell? ⟨g, 5, none⟩ = some (.int .i64 a.m.ep) ∧ w.cell? ⟨g, 6, none⟩ = some (.int .i64 a.m.sq) ∧ w.cell? ⟨g, 7, none⟩ = some (.int .i64 a.m.ac) ∧ w.cell? ⟨g, 8, none⟩ = some v ∧ w.cell? ⟨g, 9, none⟩ = some (.int .i64 a.ep) :=
  ⟨h.cell rfl, h.cell rfl, h.cell rfl, h.cell rfl, h.cell rfl, h.cell rfl, h.cell rfl, h.cell rfl, h.cell rfl, h.cell rfl⟩
theorem aa_two {w : World} {g : Nat} {T : TypeId} {a : Act} {u v : Value} (h : Blk w g T (aa a u v)) : w.cell? ⟨g, 1, none⟩ = some u ∧ w.cell? ⟨g, 9, none⟩ = some (.int .i64 a.ep) := ⟨h.cell rfl, h.cell rfl⟩
section
variable (w : World)
set_option maxRecDepth 100000 in
set_option maxHeartbeats 8000000 in
theorem nobody_walk (a : Act) (Y : Option Addr) (k q : Nat) (X : Option Addr) (n c : Nat) (h : Adt w a Y k q X n c) :
    Calls Try.prog 7 #[.agg (aa a (.slice Y k q) (.slice X n c))] w fun r w' => r = .returned (.bool true) ∧ Below w.heap.size w w' := by
  obtain ⟨ga, hga⟩ : ∃ g, w.heap.size = g := ⟨_, rfl⟩
  have hb0 : Blk (w.alloc (.cells (aa a (.slice Y k q) (.slice X n c)) 38)) ga 38 (aa a (.slice Y k q) (.slice X n c)) := Blk.new w _ _ hga.symm
  have hbl0 : Below ga w (w.alloc (.cells (aa a (.slice Y k q) (.slice X n c)) 38)) := by rw [← hga]; exact (Below.refl _ _).alloc (Nat.le_refl _) _
  obtain ⟨w0, hw0⟩ : ∃ w0, w.alloc (.cells (aa a (.slice Y k q) (.slice X n c)) 38) = w0 := ⟨_, rfl⟩
  have hs0 : w0.heap.size = ga + 1 := by rw [← hw0]; simp [hga]
  rw [hw0] at hb0 hbl0
  have he0 : Blk (w0.alloc (.cells ea0 75)) (ga + 1) 75 ea0 := Blk.new w0 _ _ hs0.symm
  obtain ⟨w1, hw1⟩ : ∃ w1, w0.alloc (.cells ea0 75) = w1 := ⟨_, rfl⟩
  have hs1 : w1.heap.size = ga + 1 + 1 := by rw [← hw1]; simp [hs0]
  have hbl1 : Below w0.heap.size w0 w1 := by rw [← hw1]; exact (Below.refl _ _).alloc (Nat.le_refl _) _
  rw [hw1] at he0
  have hr0 : Blk (w1.alloc (.cells #[.pointer none, .pointer (some ⟨ga + 1, 0, none⟩)] 24)) (ga + 1 + 1) 24 #[.pointer none, .pointer (some ⟨ga + 1, 0, none⟩)] := Blk.new w1 _ _ hs1.symm
  have hbl2 : Below w1.heap.size w1 (w1.alloc (.cells #[.pointer none, .pointer (some ⟨ga + 1, 0, none⟩)] 24)) := (Below.refl _ _).alloc (Nat.le_refl _) _
  obtain ⟨w2, hw2⟩ : ∃ w2, w1.alloc (.cells #[.pointer none, .pointer (some ⟨ga + 1, 0, none⟩)] 24) = w2 := ⟨_, rfl⟩
  have hs2 : w2.heap.size = ga + 3 := by rw [← hw2]; simp [hs1]
  rw [hw2] at hr0 hbl2
  have hA2 := (hb0.keep hbl1).keep hbl2
  have hE2 := he0.keep hbl2
  have hB2 : Below ga w w2 := (hbl0.trans (hbl1.mono (by omega))).trans (hbl2.mono (by omega))
  clear hb0 he0 hbl0 hbl1 hbl2 h
  go_enter Try.func7, Try.ntmps7
  go_wp2_with fail
  go_loopw [17] (fun iv wr => ∃ i : Nat, i ≤ 2 ∧ iv = .int .i64 (i : Int) ∧ Below w2.heap.size w2 wr) (fun iv _ => 2 - (intOf iv).toNat)
  case atStart => exact ⟨0, by omega, rfl, Below.refl _ _⟩
  case round =>
    obtain ⟨i, hi, rfl, hBr⟩ := hrel
    have hka := hA2.keep hBr
    have hke := hE2.keep hBr
    have hkr := hr0.keep hBr
    have r0 := hkr.cell (j := 0) (u := .pointer none) rfl
    have r1 := hkr.cell (j := 1) (u := .pointer (some ⟨ga + 1, 0, none⟩)) rfl
    obtain ⟨c0, c1, c2, c3, c4, c5, c6, c7, c8, c9⟩ := aa_all hka
    have hsr := hBr.size
    match i, hi with
    | 0, _ =>
      go_wp2_with fail
      refine (recv_nil _ a.m X n c).mono ?_
      rintro r w3 ⟨rfl, hb3⟩
      have hB3 := below_step hBr hb3 (by omega)
      have hka3 := hka.keep hb3
      have hke3 := hke.keep hb3
      have hkr3 := hkr.keep hb3
      have hs3 := hb3.size
      clear hka hke hkr hBr hb3 c0 c1 c2 c3 c4 c5 c6 c7 c8 c9 r0 r1
      obtain ⟨c1, c9⟩ := aa_two hka3
      go_wp2_with fail
      refine (send_nil _ Y k q).mono ?_
      rintro r w4 ⟨rfl, rfl⟩
      go_wp2_with fail
      refine (step_nil _).mono ?_
      rintro r w4 ⟨rfl, rfl⟩
      go_wp2_with fail
      refine (begin_nil _ a.ep).mono ?_
      rintro r w4 ⟨rfl, rfl⟩
      go_wp2_with fail
      refine (epoch_nil _).mono ?_
      rintro r w4 ⟨rfl, rfl⟩
      go_wp2_with fail
      refine (open_nil _).mono ?_
      rintro r w4 ⟨rfl, rfl⟩
      go_wp2_with fail
      refine (came_nil _).mono ?_
      rintro r w4 ⟨rfl, rfl⟩
      go_wp2_with fail
      refine (owes_nil _).mono ?_
      rintro r w4 ⟨rfl, rfl⟩
      go_wp2
      exact ⟨⟨1, by omega, rfl, hB3⟩, by simp [intOf]⟩
    | 1, _ =>
      go_wp2_with fail
      refine (recv_no _ (ga + 1) hke a.m X n c).mono ?_
      rintro r w3 ⟨rfl, hb3⟩
      have hB3 := below_step hBr hb3 (by omega)
      have hka3 := hka.keep hb3
      have hke3 := hke.keep hb3
      have hkr3 := hkr.keep hb3
      have hs3 := hb3.size
      clear hka hke hkr hBr hb3 c0 c1 c2 c3 c4 c5 c6 c7 c8 c9 r0 r1
      obtain ⟨c1, c9⟩ := aa_two hka3
      go_wp2_with fail
      refine (send_no _ (ga + 1) hke3 Y k q).mono ?_
      rintro r w4 ⟨rfl, rfl⟩
      go_wp2_with fail
      refine (step_no _ (ga + 1) hke3).mono ?_
      rintro r w4 ⟨rfl, rfl⟩
      go_wp2_with fail
      refine (begin_no _ (ga + 1) hke3 a.ep).mono ?_
      rintro r w4 ⟨rfl, rfl⟩
      go_wp2_with fail
      refine (epoch_no _ (ga + 1) hke3).mono ?_
      rintro r w4 ⟨rfl, rfl⟩
      go_wp2_with fail
      refine (open_no _ (ga + 1) hke3).mono ?_
      rintro r w4 ⟨rfl, rfl⟩
      go_wp2_with fail
      refine (came_no _ (ga + 1) hke3).mono ?_
      rintro r w4 ⟨rfl, rfl⟩
      go_wp2_with fail
      refine (owes_no _ (ga + 1) hke3).mono ?_
      rintro r w4 ⟨rfl, rfl⟩
      go_wp2
      exact ⟨⟨2, by omega, rfl, hB3⟩, by simp [intOf]⟩
    | 2, _ =>
      clear c0 c1 c2 c3 c4 c5 c6 c7 c8 c9 r0 r1 hka hke hkr
      have hBw : Below ga w wr := hB2.trans (hBr.mono (by omega))
      go_wp2_with fail
      refine (new_yes wr 0 1 1 (by decide)).mono ?_
      rintro r w4 ⟨rfl, hE4, hb4, hs4⟩
      obtain ⟨b, hb⟩ : ∃ b, wr.heap.size = b := ⟨_, rfl⟩
      rw [hb] at hE4 hs4 hb4 hsr ⊢
      have hB4 : Below ga w w4 := hBw.trans (hb4.mono (by omega))
      clear hBw hBr hb4
      have hx : Blk (w4.alloc (.cells #[.int .u8 97, .int .u8 98] 5 (2, 3))) (b + 1) 5 #[.int .u8 97, .int .u8 98] ∨ True := .inr trivial
      obtain ⟨w5, hw5⟩ : ∃ w5, w4.alloc (.cells #[.int .u8 97, .int .u8 98] 5 (2, 3)) = w5 := ⟨_, rfl⟩
      have hh5 : w5.heap[b + 1]? = some (.cells #[.int .u8 97, .int .u8 98] 5 (2, 3)) := by rw [← hw5, ← hs4]; exact heap_alloc_new w4 _
      have hx5 : Bs w5 (some ⟨b + 1, 0, none⟩) 2 [97, 98] := by rw [← hw5, ← hs4]; exact Bs.new w4 [97, 98] _ (2, 3)
      have hb5 : Below w4.heap.size w4 w5 := by rw [← hw5]; exact (Below.refl _ _).alloc (Nat.le_refl _) _
      have hs5 : w5.heap.size = b + 1 + 1 := by rw [← hw5]; simp [hs4]
      have kc : (convert 34 34 (.slice (some ⟨b + 1, 0, none⟩) 2 2)).run Try.prog (w4.alloc (.cells #[.int .u8 97, .int .u8 98] 5)) = .ok (.slice (some ⟨b + 1, 0, none⟩) 2 2) w5 := by
        have := Joins.run_convert_bytes_const_at (P := Try.prog) w4 34 5 #[.int .u8 97, .int .u8 98] 2 2 (b + 1) hs4.symm Try.underlying34 Try.underlying5
        rw [this]
        exact congrArg _ hw5
      have hE5 := hE4.keep hb5
      have hB5 : Below ga w w5 := hB4.trans (hb5.mono (by omega))
      have hS := send_ w5 b _ (newS 0 1 1) hE5 (some ⟨b + 1, 0, none⟩) 2 2 [97, 98] hx5 (fun h => by cases h) (Nat.le_refl _) (by omega)
      rw [nb1] at hS
      clear hE4 hB4 hw5 hb5 hx
      go_wp2_with fail
      refine hS.mono ?_
      rintro r w6 ⟨rfl, hE6, hF6⟩
      have hE6 : Ed w6 b (fun k => w5.heap.size ≤ k ∧ k < w6.heap.size) nbA := hE6.sub (fun k hk hl => hk.elim (fun q => q.elim) (fun q => ⟨q, hl⟩)) (fun q => by omega)
      have hh6 : w6.heap[b + 1]? = some (.cells #[.int .u8 97, .int .u8 98] 5 (2, 3)) := (hF6.block (b + 1) (by omega) (by omega)).trans hh5
      have hB6 := hB5.trans (hF6.below (B := ga) (by omega) (fun j q => by omega))
      have hs6 := hF6.size
      have x0 : w6.cell? ⟨b + 1, 0, none⟩ = some (.int .u8 97) := by unfold World.cell?; simp only [hh6]; rfl
      have xf : w6.frozen? ⟨b + 1, 0, none⟩ = false := by unfold World.frozen?; simp only [hh6]; rfl
      have hE7 : Ed (w6.setCell ⟨b + 1, 0, none⟩ (.int .u8 120)) b (fun k => w5.heap.size ≤ k ∧ k < w6.heap.size) nbA := hE6.fu (S := fun k => k = b + 1) (fu_set (Fu.refl _ _) (b + 1) 0 _ rfl) (fun k hk q => by omega) (by omega)
      have hB7 : Below ga w (w6.setCell ⟨b + 1, 0, none⟩ (.int .u8 120)) := hB6.grown (grown_setCell w6 ⟨b + 1, 0, none⟩ _) (by omega) (fun k q => by injection q with q; simp only at q; omega)
      have hs7 : w6.heap.size ≤ (w6.setCell ⟨b + 1, 0, none⟩ (.int .u8 120)).heap.size := (grown_setCell w6 ⟨b + 1, 0, none⟩ (.int .u8 120)).size
      have hST := step_ (w6.setCell ⟨b + 1, 0, none⟩ (.int .u8 120)) b _ nbA hE7 (fun k hk => by omega) (by decide) (by decide)
      clear hE5 hB5 hx5 hh5 kc hS hF6 hE6 hB6
      go_wp2_with fail
      generalize hw7 : w6.setCell ⟨b + 1, 0, none⟩ (.int .u8 120) = w7
      rw [hw7] at hST hE7 hB7 hs7
      refine hST.mono ?_
      rintro r w8 ⟨v8, P8, rfl, hP8, hl8, hE8, hF8⟩
      rw [nb2] at hl8
      obtain ⟨⟨m8, y8⟩, hl9, hm8⟩ := List.map_eq_singleton_iff.1 hl8
      subst hl9
      have hm8 : m8 = nbM := hm8
      subst hm8
      have hrow := hP8.row
      obtain ⟨A8, c8, hv8, hc8, _, _⟩ := own_form hrow
      subst hv8
      obtain ⟨g8, X8, p8, d8, rfl, -, hM8, hX8, hg8, hg8b, hy8, e0, e1, e2, e3, e4, e5, e6⟩ := hP8.get (k := 0) (by simp)
      have hy8 : y8 = .slice X8 p8 d8 := hy8
      subst hy8
      simp only [Nat.zero_mul, List.getElem_cons_zero, Nat.zero_add] at hM8 e6
      have hp8 : p8 = 2 := hM8.len
      subst hp8
      have hown8 := (hP8.each _ List.mem_cons_self).1
      obtain ⟨gx, cap, ex, _⟩ := hown8.form (by simp [nbM])
      injection ex with ex1 ex2 ex3
      clear ex2
      subst ex1
      have hgx := hown8.lt gx rfl
      have z1 : w8.cell? ⟨gx, 1, none⟩ = some (.int .u8 98) := by have := hown8.cellAt 1 (by simp [nbM]); simpa [nbM, bvs, bv] using this
      have hB8 := hB7.trans (hF8.below (B := ga) (by omega) (fun j q => by omega))
      have hs8 := hF8.size
      have hset := grown_setCell w8 ⟨gx, 1, none⟩ (.int .u8 120)
      have hfz : w8.frozen? ⟨gx, 1, none⟩ = false := by
        rcases hown8.2 with ⟨q, _⟩ | ⟨g', cap', cur', q, _, hh, _⟩
        · cases q
        · injection q with q1 _ _
          injection q1 with q1
          injection q1 with q1 _ _
          subst q1
          exact Blk.free (show Blk w8 gx _ cur' from hh) 1
      have hE9 : Ed (w8.setCell ⟨gx, 1, none⟩ (.int .u8 120)) b (fun k => w5.heap.size ≤ k ∧ k < w6.heap.size) (stpS nbA) := hE8.fu (S := fun k => k = gx) (fu_set (Fu.refl _ _) gx 1 _ rfl) (fun k hk q => by omega) (by omega)
      have hB9 : Below ga w (w8.setCell ⟨gx, 1, none⟩ (.int .u8 120)) := hB8.grown hset (by omega) (fun k q => by injection q with q; simp only at q; omega)
      have hs9 := hset.size
      have hST := step_ (w8.setCell ⟨gx, 1, none⟩ (.int .u8 120)) b _ (stpS nbA) hE9 (fun k hk => by omega) (by decide) (by decide)
      clear hE8 hF8 hP8 hl8 hrow hM8 hset hB8 hown8 e0 e1 e2 e3 e4 e5 hE7 hB7 x0 xf
      go_wp2_with fail
      generalize hw9 : w8.setCell ⟨gx, 1, none⟩ (.int .u8 120) = w9
      rw [hw9] at hST hE9 hB9 hs9
      refine hST.mono ?_
      rintro r w10 ⟨v10, P10, rfl, hP10, hl10, hE10, hF10⟩
      rw [nb3] at hl10
      obtain ⟨⟨m10, y10⟩, hl11, hm10⟩ := List.map_eq_singleton_iff.1 hl10
      subst hl11
      have hm10 : m10 = nbM := hm10
      subst hm10
      have hrow := hP10.row
      obtain ⟨A10, c10, hv10, hc10, _, _⟩ := own_form hrow
      subst hv10
      obtain ⟨g10, X10, p10, d10, rfl, -, hM10, -, -, -, -, -, -, -, -, -, -, j6⟩ := hP10.get (k := 0) (by simp)
      simp only [Nat.zero_mul, List.getElem_cons_zero, Nat.zero_add] at hM10 j6
      have hp10 : p10 = 2 := hM10.len
      subst hp10
      have hst := run_str (P := Try.prog) hM10.bs (fun h => (hM10.nil h).1) 34 9 5 Try.underlying34 Try.underlying5 Try.underlying9 d10
      rw [show nbM.d = [97, 98] from rfl] at hst
      have hB11 := hB9.trans (hF10.below (B := ga) (by omega) (fun j q => by omega))
      have hs10 := hF10.size
      have hA := alive_ w10
      clear hST hE9 hB9 hE10 hF10 hP10 hl10 hrow hM10 z1 hfz e6 hh6 hw7 hw9
      go_wp2_with fail
      refine hA.mono ?_
      rintro r w11 ⟨rfl, hb11⟩
      go_wp2
      go_ret
      exact ⟨rfl, by rw [hga]; exact hB11.trans (hb11.mono (by omega))⟩
end
end Ses
open Ses Net

set_option maxRecDepth 100000 in
theorem sessNobody_lifted (os : Os) (started : os.Started) (H : Type) (enc : TypeId × Value → H) :
    ReturnsInHanded {} Try.checked os 7 .any (Rows.sessNobodySpec.pre6 enc Try.prog Try.f7 Rows.sessNobodyRow.domain false) (Rows.sessNobodySpec.post enc Try.prog Try.f7 false true false false) := by
  refine law_lifted (C := Try.checked) (tb := 4) own_ started (by kernel_rfl) Try.func7
    (ChangeSpec.witness6 (enc := enc) (C := Try.checked) false ⟨#[], #[.agg #[.int .u8 0, .slice none 0 0, .int .i64 0, .int .i64 0, .int .i64 0, .int .i64 0, .int .i64 0, .int .i64 0, .slice none 0 0, .int .i64 0]], []⟩ 8 (by kernel_rfl) (by kernel_rfl) (by kernel_rfl) (by kernel_rfl))
    rfl rfl Try.underlying4 laidOut_ (by kernel_rfl) (fun ds h => by match ds, h with | [_], _ => rfl) ?_
  intro W base args ds p hval0 hA0 _ hsz0
  have hval : ∀ (j : Nat) t v, Try.f7.params[j]? = some t → args[j]? = some v → Value.okWide Try.prog W .any base t v := hval0
  have hA : DataW.TrodAll enc Try.prog W 0 (fun _ => true) true Try.f7.params.toList args.toList ds p := hA0
  have hsz : (DataW.weightsEach Try.prog Try.f7.params.toList ds).all (· ≤ reachBytes) = true := hsz0
  clear hval0 hA0 hsz0
  rw [Try.params7] at hA hval hsz
  obtain ⟨v0, d0, rfl, rfl, h0⟩ := trodAll_one hA
  obtain ⟨cs0, a0, rfl, r0, b0⟩ := arg_struct ops_ac Try.underlying38 (hval 0 _ v0 rfl rfl) h0 (weight_at hsz (j := 0) rfl rfl)
  exact by
    obtain ⟨Y, k, q, X, n, c, rfl, hm⟩ := ac_arr r0
    exact nobody_walk W (toAc a0) Y k q X n c hm

/-- SessNobody, for every input: the statement as it was given. -/
theorem sessNobody_holds : Rows.SessNobodySaid :=
  OpenClaim.holds_of_wide 7 Try.f7 rfl rfl rfl rfl rfl rfl rfl ⟨rfl, rfl, rfl, rfl, rfl⟩ rfl rfl rfl rfl rfl (by kernel_rfl) Try.func7 (by kernel_rfl)
    (of_decide_eq_true (by kernel_rfl)) (by unfold Func.isWrapper; first | (rw [if_pos (by decide +kernel)]; kernel_rfl) | (rw [if_neg (by decide +kernel)]; exact ⟨rfl, rfl⟩))
    (fun os started H enc _ => sessNobody_lifted os started H enc)
end Go.Proofs.Ytlmaelbalmjlbaa
