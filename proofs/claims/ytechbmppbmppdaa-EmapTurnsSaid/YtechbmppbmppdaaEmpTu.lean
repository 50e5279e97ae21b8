/- Proves EmapTurns of layer 6 (emap), for every input, with no condition: any list with an extent more, without blocks, and what lies there, is the document's, or refused. -/
import Derived.Test.YtechbmppbmppdaaEmpW
namespace Go.Proofs.Ytechbmppbmppdaa
open Go.ChangeShapes Go.WideShapes Go.ChangeAt Go.RowKit

set_option maxRecDepth 100000 in
set_option maxHeartbeats 4000000 in
theorem emapTurns_walk (w : World) (A : Option Addr) (n c : Nat) (l : List Ext) (h : Es w A n l) (hn : n ≤ 9223372036854775807) (x : Ext) (fx : Fit x) :
    Calls Try.prog 4 #[.slice A n c, .agg #[.int .i64 x.off, .int .i64 x.len, .int .i64 x.phys, .int .i64 x.birth]] w fun e w' => e = .returned (.bool true) ∧ Below w.heap.size w w' := by
  obtain ⟨er, her⟩ : ∃ z, errOf (rightB l && x.may) = z := ⟨_, rfl⟩
  obtain ⟨res, hres⟩ : ∃ z, ifL (rightB l && x.may) (putL l x) = z := ⟨_, rfl⟩
  obtain ⟨fr, hfr⟩ : ∃ z, errOf (rightB l && rangeB x.off x.len) = z := ⟨_, rfl⟩
  obtain ⟨cuts, hcuts⟩ : ∃ z, ifL (rightB l && rangeB x.off x.len) (cutL l x.off x.len) = z := ⟨_, rfl⟩
  obtain ⟨pars, hpars⟩ : ∃ z, ifL (rightB l && rangeB x.off x.len) (partL l x.off (x.off + x.len)) = z := ⟨_, rfl⟩
  have Her := Lib.hid her
  have Hres := Lib.hid hres
  have Hfr := Lib.hid hfr
  have Hcuts := Lib.hid hcuts
  have Hpars := Lib.hid hpars
  clear her hres hfr hcuts hpars
  have hac := Blk.new w 32 #[.int .i64 x.off, .int .i64 x.len, .int .i64 x.phys, .int .i64 x.birth] rfl
  have hba : Below w.heap.size w (w.alloc (.cells #[.int .i64 x.off, .int .i64 x.len, .int .i64 x.phys, .int .i64 x.birth] 32)) := (Below.refl _ _).alloc (Nat.le_refl _) _
  go_enter Try.func4, Try.ntmps4
  go_wp2_with fail
  generalize (w.alloc (.cells #[.int .i64 x.off, .int .i64 x.len, .int .i64 x.phys, .int .i64 x.birth] 32)) = w0 at *
  have h0 := h.below hba
  clear h
  refine (put_ w0 A n c l h0 hn x fx).mono ?_
  rw [Her.out, Hres.out]
  rintro e w1 ⟨A1, m1, c1, rfl, g1, hb1⟩
  have d0 := (hac.keep hb1).cell (j := 0) (u := .int .i64 x.off) rfl
  have d1 := (hac.keep hb1).cell (j := 1) (u := .int .i64 x.len) rfl
  have d2 := (hac.keep hb1).cell (j := 2) (u := .int .i64 x.phys) rfl
  have d3 := (hac.keep hb1).cell (j := 3) (u := .int .i64 x.birth) rfl
  go_wp2_with fail
  refine (rput_ w1 A n c l (h0.below hb1) hn x fx).mono ?_
  rw [Her.out, Hres.out]
  rintro e w2 ⟨A2, m2, c2, rfl, g2, hb2⟩
  replace hb1 := below_step hb1 hb2 (Nat.le_refl _)
  replace g1 := g1.keep hb2
  clear hb2 d0 d1 d2 d3
  have d0 := (hac.keep hb1).cell (j := 0) (u := .int .i64 x.off) rfl
  have d1 := (hac.keep hb1).cell (j := 1) (u := .int .i64 x.len) rfl
  have d2 := (hac.keep hb1).cell (j := 2) (u := .int .i64 x.phys) rfl
  have d3 := (hac.keep hb1).cell (j := 3) (u := .int .i64 x.birth) rfl
  go_wp2_with fail
  refine (cut_ w2 A n c l (h0.below hb1) hn x.off x.len fx.off fx.len).mono ?_
  rw [Hfr.out, Hcuts.out]
  rintro e w3 ⟨A3, m3, c3, rfl, g3, hb2⟩
  replace hb1 := below_step hb1 hb2 (Nat.le_refl _)
  replace g1 := g1.keep hb2
  replace g2 := g2.keep hb2
  clear hb2 d0 d1 d2 d3
  have d0 := (hac.keep hb1).cell (j := 0) (u := .int .i64 x.off) rfl
  have d1 := (hac.keep hb1).cell (j := 1) (u := .int .i64 x.len) rfl
  have d2 := (hac.keep hb1).cell (j := 2) (u := .int .i64 x.phys) rfl
  have d3 := (hac.keep hb1).cell (j := 3) (u := .int .i64 x.birth) rfl
  go_wp2_with fail
  refine (rcut_ w3 A n c l (h0.below hb1) hn x.off x.len fx.off fx.len).mono ?_
  rw [Hfr.out, Hcuts.out]
  rintro e w4 ⟨A4, m4, c4, rfl, g4, hb2⟩
  replace hb1 := below_step hb1 hb2 (Nat.le_refl _)
  replace g1 := g1.keep hb2
  replace g2 := g2.keep hb2
  replace g3 := g3.keep hb2
  clear hb2 d0 d1 d2 d3
  have d0 := (hac.keep hb1).cell (j := 0) (u := .int .i64 x.off) rfl
  have d1 := (hac.keep hb1).cell (j := 1) (u := .int .i64 x.len) rfl
  have d2 := (hac.keep hb1).cell (j := 2) (u := .int .i64 x.phys) rfl
  have d3 := (hac.keep hb1).cell (j := 3) (u := .int .i64 x.birth) rfl
  go_wp2_with fail
  refine (partU w4 A n c l (h0.below hb1) hn x.off x.len fx.off fx.len).mono ?_
  rw [Hfr.out, Hpars.out]
  rintro e w5 ⟨A5, m5, c5, rfl, g5, hb2⟩
  replace hb1 := below_step hb1 hb2 (Nat.le_refl _)
  replace g1 := g1.keep hb2
  replace g2 := g2.keep hb2
  replace g3 := g3.keep hb2
  replace g4 := g4.keep hb2
  clear hb2 d0 d1 d2 d3
  have d0 := (hac.keep hb1).cell (j := 0) (u := .int .i64 x.off) rfl
  have d1 := (hac.keep hb1).cell (j := 1) (u := .int .i64 x.len) rfl
  have d2 := (hac.keep hb1).cell (j := 2) (u := .int .i64 x.phys) rfl
  have d3 := (hac.keep hb1).cell (j := 3) (u := .int .i64 x.birth) rfl
  go_wp2_with fail
  refine (rpartU w5 A n c l (h0.below hb1) hn x.off x.len fx.off fx.len).mono ?_
  rw [Hfr.out, Hpars.out]
  rintro e w6 ⟨A6, m6, c6, rfl, g6, hb2⟩
  replace hb1 := below_step hb1 hb2 (Nat.le_refl _)
  replace g1 := g1.keep hb2
  replace g2 := g2.keep hb2
  replace g3 := g3.keep hb2
  replace g4 := g4.keep hb2
  replace g5 := g5.keep hb2
  clear hb2 d0 d1 d2 d3
  go_wp2_with fail
  refine (same_ w6 A1 A2 m1 m2 c1 c2 res g1.es g2.es g1.le).mono ?_
  rintro e w7 ⟨k7, rfl, rfl⟩
  go_wp2_with fail
  refine (same_ (w6.drewN k7) A3 A4 m3 m4 c3 c4 cuts (g3.drewN k7).es (g4.drewN k7).es g3.le).mono ?_
  rintro e w8 ⟨k8, rfl, rfl⟩
  go_wp2_with fail
  refine (same_ _ A5 A6 m5 m6 c5 c6 pars (g5.drewN _).es (g6.drewN _).es g5.le).mono ?_
  rintro e w9 ⟨k9, rfl, rfl⟩
  go_wp2_with fail
  refine (alive_ _).mono ?_
  rintro e wa ⟨rfl, hba2⟩
  go_wp2
  go_ret
  exact ⟨rfl, below_step hba (below_step hb1 (⟨hba2.os, hba2.tape, hba2.output, hba2.size, hba2.block⟩ : Below w6.heap.size w6 wa) (Nat.le_refl _)) (Nat.le_refl _)⟩


set_option maxRecDepth 100000 in
theorem emapTurns_lifted (os : Os) (started : os.Started) (H : Type) (enc : TypeId × Value → H) :
    ReturnsInHanded {} Try.checked os 4 .any (Rows.emapTurnsSpec.pre6 enc Try.prog Try.f4 Rows.emapTurnsRow.domain false) (Rows.emapTurnsSpec.post enc Try.prog Try.f4 false true false false) := by
  refine law_lifted (C := Try.checked) (tb := 4) own_ started (by kernel_rfl) Try.func4
    (ChangeSpec.witness6 (enc := enc) (C := Try.checked) false ⟨#[], #[.slice none 0 0, .agg #[.int .i64 0, .int .i64 0, .int .i64 0, .int .i64 0]], []⟩ 8 (by kernel_rfl) (by kernel_rfl) (by kernel_rfl) (by kernel_rfl))
    rfl rfl Try.underlying4 laidOut_ (by kernel_rfl) (fun ds h => by match ds, h with | [_, _], _ => rfl) ?_
  intro W base args ds p hval0 hA0 _ hsz0
  have hval : ∀ (j : Nat) t v, Try.f4.params[j]? = some t → args[j]? = some v → Value.okWide Try.prog W .any base t v := hval0
  have hA : DataW.TrodAll enc Try.prog W 0 (fun _ => true) true Try.f4.params.toList args.toList ds p := hA0
  have hsz : (DataW.weightsEach Try.prog Try.f4.params.toList ds).all (· ≤ reachBytes) = true := hsz0
  clear hval0 hA0 hsz0
  rw [Try.params4] at hA hval hsz
  obtain ⟨v0, v1, d0, d1, p0, p1, rfl, rfl, rfl, h0, h1⟩ := trodAll_two hA
  obtain ⟨A0, n0, c0, xs0, rfl, r0, b0⟩ := arg_slice ops_exts Try.underlying22 (hval 0 _ v0 rfl rfl) h0 (weight_at hsz (j := 0) rfl rfl)
  obtain ⟨cs1, a1, rfl, r1, b1⟩ := arg_struct ops_ext Try.underlying32 (hval 1 _ v1 rfl rfl) h1 (weight_at hsz (j := 1) rfl rfl)
  obtain ⟨es0, hn0, hc0, _⟩ := exts_es r0
  obtain ⟨rfl, fx⟩ := ext_arr r1
  exact emapTurns_walk W A0 n0 c0 _ es0 (by omega) _ fx

/-- EmapTurns, for every input: the statement as it was given. -/
theorem emapTurns_holds : Rows.EmapTurnsSaid :=
  OpenClaim.holds_of_wide 4 Try.f4 rfl rfl rfl rfl rfl rfl rfl ⟨rfl, rfl, rfl, rfl, rfl⟩ rfl rfl rfl rfl rfl (by kernel_rfl) Try.func4 (by kernel_rfl)
    (of_decide_eq_true (by kernel_rfl)) (by unfold Func.isWrapper; first | (rw [if_pos (by decide +kernel)]; kernel_rfl) | (rw [if_neg (by decide +kernel)]; exact ⟨rfl, rfl⟩))
    (fun os started H enc _ => emapTurns_lifted os started H enc)
end Go.Proofs.Ytechbmppbmppdaa
