/- Proves BlocksEither of layer 8 (blocks), for every input, with no condition: ops that do not meet may be done in either order. -/
import Derived.Test.YtfgoaedgiomlkaaBloW
set_option linter.all false
namespace Go.Proofs.Ytfgoaedgiomlkaa
open Go.ChangeShapes Go.WideShapes Go.ChangeAt Go.RowKit
open Blo

theorem apE_swap (n : Nat) (x y : BOp) : apE n [y, x] = apE n [x, y] := by
  unfold apE
  have : [y, x].all (·.right (n : Int)) = [x, y].all (·.right (n : Int)) := by simp [Bool.and_comm]
  rw [this]
set_option maxRecDepth 100000 in
set_option maxHeartbeats 4000000 in
theorem blocksEither_walk (w : World) (A : Option Addr) (n c : Nat) (v : List Nat) (hv : Ns w A n v) (hA : A = none → n = 0 ∧ c = 0) (hnc : n ≤ c) (hc : c ≤ 9223372036854775807) (x y : BOp) (X Y : Option Addr) (m cx p cy : Nat) (dx : Dat w x X m cx) (dy : Dat w y Y p cy) :
    Calls Try.prog 4 #[.slice A n c, .agg #[.int .i64 x.kind, .int .i64 x.off, .int .i64 x.len, .slice X m cx], .agg #[.int .i64 y.kind, .int .i64 y.off, .int .i64 y.len, .slice Y p cy]] w fun e w' => e = .returned (.bool true) ∧ Below w.heap.size w w' := by
  obtain ⟨e1, he1⟩ : ∃ z, apE n [x, y] = z := ⟨_, rfl⟩
  have He1 := Lib.hid he1
  have He2 := Lib.hid ((apE_swap n x y).trans he1)
  obtain ⟨l1, hl1⟩ : ∃ z, apL v [x, y] = z := ⟨_, rfl⟩
  obtain ⟨l2, hl2⟩ : ∃ z, apL v [y, x] = z := ⟨_, rfl⟩
  have Hl1 := Lib.hid hl1
  have Hl2 := Lib.hid hl2
  have Hlen := Lib.hid hv.len
  clear he1 hl1 hl2
  have hacx := Blk.new w 36 #[.int .i64 x.kind, .int .i64 x.off, .int .i64 x.len, .slice X m cx] rfl
  have hbx : Below w.heap.size w (w.alloc (.cells #[.int .i64 x.kind, .int .i64 x.off, .int .i64 x.len, .slice X m cx] 36)) := (Below.refl _ _).alloc (Nat.le_refl _) _
  have hs1 : (w.alloc (.cells #[.int .i64 x.kind, .int .i64 x.off, .int .i64 x.len, .slice X m cx] 36)).heap.size = w.heap.size + 1 := by simp
  have hacy := Blk.new (w.alloc (.cells #[.int .i64 x.kind, .int .i64 x.off, .int .i64 x.len, .slice X m cx] 36)) 36 #[.int .i64 y.kind, .int .i64 y.off, .int .i64 y.len, .slice Y p cy] hs1.symm
  have hacx2 := hacx.alloc (.cells #[.int .i64 y.kind, .int .i64 y.off, .int .i64 y.len, .slice Y p cy] 36)
  have hby : Below w.heap.size w ((w.alloc (.cells #[.int .i64 x.kind, .int .i64 x.off, .int .i64 x.len, .slice X m cx] 36)).alloc (.cells #[.int .i64 y.kind, .int .i64 y.off, .int .i64 y.len, .slice Y p cy] 36)) := hbx.alloc hbx.size _
  have hs2 : ((w.alloc (.cells #[.int .i64 x.kind, .int .i64 x.off, .int .i64 x.len, .slice X m cx] 36)).alloc (.cells #[.int .i64 y.kind, .int .i64 y.off, .int .i64 y.len, .slice Y p cy] 36)).heap.size = w.heap.size + 1 + 1 := by simp
  have dx2 := dx.below hby
  have dy2 := dy.below hby
  have hv2 := hv.below hby
  have ho := os_new2 (t := 36) hs2.symm dx2 dy2
  have hbo : Below ((w.alloc (.cells #[.int .i64 x.kind, .int .i64 x.off, .int .i64 x.len, .slice X m cx] 36)).alloc (.cells #[.int .i64 y.kind, .int .i64 y.off, .int .i64 y.len, .slice Y p cy] 36)).heap.size ((w.alloc (.cells #[.int .i64 x.kind, .int .i64 x.off, .int .i64 x.len, .slice X m cx] 36)).alloc (.cells #[.int .i64 y.kind, .int .i64 y.off, .int .i64 y.len, .slice Y p cy] 36)) (((w.alloc (.cells #[.int .i64 x.kind, .int .i64 x.off, .int .i64 x.len, .slice X m cx] 36)).alloc (.cells #[.int .i64 y.kind, .int .i64 y.off, .int .i64 y.len, .slice Y p cy] 36)).alloc (.cells #[.int .i64 x.kind, .int .i64 x.off, .int .i64 x.len, .slice X m cx, .int .i64 y.kind, .int .i64 y.off, .int .i64 y.len, .slice Y p cy] 36)) := (Below.refl _ _).alloc (Nat.le_refl _) _
  have hv3 := hv2.below hbo
  have hB := below_step hby hbo (Nat.le_refl _)
  clear hacx hbx hs1 hs2 dx dy hv hv2
  have hx3 := hacx2.keep hbo
  have hy3 := hacy.keep hbo
  have dx3 := dx2.below hbo
  have dy3 := dy2.below hbo
  go_enter Try.func4, Try.ntmps4
  go_wp2_with fail
  refine (apply_ _ A n c v hv3 hA hnc hc _ 2 2 [x, y] ho (by omega)).mono ?_
  rw [He1.out, Hl1.out]
  clear ho hby hbo hacx2 hacy dx2 dy2
  generalize (((w.alloc (.cells #[.int .i64 x.kind, .int .i64 x.off, .int .i64 x.len, .slice X m cx] 36)).alloc (.cells #[.int .i64 y.kind, .int .i64 y.off, .int .i64 y.len, .slice Y p cy] 36)).alloc (.cells #[.int .i64 x.kind, .int .i64 x.off, .int .i64 x.len, .slice X m cx, .int .i64 y.kind, .int .i64 y.off, .int .i64 y.len, .slice Y p cy] 36)) = w3 at *
  rintro e w4 ⟨A4, m4, c4, rfl, g4, hb4⟩
  have hx4 := hx3.keep hb4
  have hy4 := hy3.keep hb4
  have d0 := hx4.cell (j := 0) (u := .int .i64 x.kind) rfl
  have d1 := hx4.cell (j := 1) (u := .int .i64 x.off) rfl
  have d2 := hx4.cell (j := 2) (u := .int .i64 x.len) rfl
  have d3 := hx4.cell (j := 3) (u := .slice X m cx) rfl
  have f0 := hy4.cell (j := 0) (u := .int .i64 y.kind) rfl
  have f1 := hy4.cell (j := 1) (u := .int .i64 y.off) rfl
  have f2 := hy4.cell (j := 2) (u := .int .i64 y.len) rfl
  have f3 := hy4.cell (j := 3) (u := .slice Y p cy) rfl
  have dx4 := dx3.below hb4
  have dy4 := dy3.below hb4
  have hv4 := hv3.below hb4
  have hB4 := below_step hB hb4 (Nat.le_refl _)
  clear hx3 hy3 dx3 dy3 hv3 hB hb4
  have ho5 := os_new2 (t := 36) (g := w4.heap.size) rfl dy4 dx4
  have hbo : Below w4.heap.size w4 (w4.alloc (.cells #[.int .i64 y.kind, .int .i64 y.off, .int .i64 y.len, .slice Y p cy, .int .i64 x.kind, .int .i64 x.off, .int .i64 x.len, .slice X m cx] 36)) := (Below.refl _ _).alloc (Nat.le_refl _) _
  go_wp2_with fail
  refine (apply_ _ A n c v (hv4.below hbo) hA hnc hc _ 2 2 [y, x] ho5 (by omega)).mono ?_
  rw [He2.out, Hl2.out]
  rintro e w6 ⟨A6, m6, c6, rfl, g6, hb6⟩
  have hb46 := below_step hbo hb6 (Nat.le_refl _)
  have hx6 := hx4.keep hb46
  have hy6 := hy4.keep hb46
  have dx6 := dx4.below hb46
  have dy6 := dy4.below hb46
  have g46 := g4.keep hb46
  have hB6 := below_step hB4 hb46 (Nat.le_refl _)
  clear d0 d1 d2 d3 f0 f1 f2 f3 dx4 dy4 hv4 hB4 ho5 hbo hb6 hx4 hy4 g4 hb46
  have d0 := hx6.cell (j := 0) (u := .int .i64 x.kind) rfl
  have d1 := hx6.cell (j := 1) (u := .int .i64 x.off) rfl
  have d2 := hx6.cell (j := 2) (u := .int .i64 x.len) rfl
  have d3 := hx6.cell (j := 3) (u := .slice X m cx) rfl
  have f0 := hy6.cell (j := 0) (u := .int .i64 y.kind) rfl
  have f1 := hy6.cell (j := 1) (u := .int .i64 y.off) rfl
  have f2 := hy6.cell (j := 2) (u := .int .i64 y.len) rfl
  have f3 := hy6.cell (j := 3) (u := .slice Y p cy) rfl
  by_cases h0 : e1 = 0
  · subst h0
    obtain ⟨hm, hr⟩ := apE_ok He1.out
    have hn := many_nat hm
    have hx := all_right hr (x := x) (by simp)
    have hy := all_right hr (x := y) (by simp)
    have Heq : meetB x y = false → l1 = l2 := fun hme => by
      have hr2 : [y, x].all (·.right (n : Int)) = true := by rw [← hr]; simp [Bool.and_comm]
      rw [Hlen.out] at hm hr hr2
      rw [← Hl1.out, ← Hl2.out, apL_ok hm hr, apL_ok hm hr2]
      simp only [List.foldl_cons, List.foldl_nil]
      rw [do_either hme]
    have HEQ := Lib.hid Heq
    clear Heq hm hr
    go_wp2_with fail
    refine (meet_ _ n x y X Y m cx p cy hn hx hy dx6 dy6).mono ?_
    cases hme : meetB x y with
    | true =>
      rintro e w7 ⟨rfl, hb7⟩
      go_wp2_with fail
      refine (alive_ _).mono ?_
      rintro e w8 ⟨rfl, hb8⟩
      go_wp2
      go_ret
      exact ⟨rfl, below_step (below_step hB6 hb7 (Nat.le_refl _)) hb8 (Nat.le_refl _)⟩
    | false =>
      have hll := HEQ.out hme
      subst hll
      rintro e w7 ⟨rfl, hb7⟩
      have g47 := g46.keep hb7
      have g67 := g6.keep hb7
      have z4 := g47.bounds
      go_wp2_with fail
      refine (words_ w7 A4 A6 m4 m6 c4 c6 l1 l1 g47.ns g67.ns (by omega)).mono ?_
      rw [decide_eq_true (rfl : l1 = l1)]
      rintro e w8 ⟨rfl, j8, rfl⟩
      go_wp2_with fail
      refine (alive_ _).mono ?_
      rintro e w9 ⟨rfl, hb9⟩
      go_wp2
      go_ret
      exact ⟨rfl, below_step (below_step hB6 hb7 (Nat.le_refl _)) (⟨hb9.os, hb9.tape, hb9.output, hb9.size, hb9.block⟩ : Below w7.heap.size w7 w9) (Nat.le_refl _)⟩
  · go_wp2_with fail
    refine (alive_ _).mono ?_
    rintro e w8 ⟨rfl, hb8⟩
    go_wp2
    go_ret
    exact ⟨rfl, below_step hB6 hb8 (Nat.le_refl _)⟩

set_option maxRecDepth 100000 in
theorem blocksEither_lifted (os : Os) (started : os.Started) (H : Type) (enc : TypeId × Value → H) :
    ReturnsInHanded {} Try.checked os 4 .any (Rows.blocksEitherSpec.pre6 enc Try.prog Try.f4 Rows.blocksEitherRow.domain false) (Rows.blocksEitherSpec.post enc Try.prog Try.f4 false true false false) := by
  refine law_lifted (C := Try.checked) (tb := 4) own_ started (by kernel_rfl) Try.func4
    (ChangeSpec.witness6 (enc := enc) (C := Try.checked) false ⟨#[], #[.slice none 0 0, .agg #[.int .i64 0, .int .i64 0, .int .i64 0, .slice none 0 0], .agg #[.int .i64 0, .int .i64 0, .int .i64 0, .slice none 0 0]], []⟩ 8 (by kernel_rfl) (by kernel_rfl) (by kernel_rfl) (by kernel_rfl))
    rfl rfl Try.underlying4 laidOut_ (by kernel_rfl) (fun ds h => by match ds, h with | [_, _, _], _ => rfl) ?_
  intro W base args ds p hval0 hA0 _ hsz0
  have hval : ∀ (j : Nat) t v, Try.f4.params[j]? = some t → args[j]? = some v → Value.okWide Try.prog W .any base t v := hval0
  have hA : DataW.TrodAll enc Try.prog W 0 (fun _ => true) true Try.f4.params.toList args.toList ds p := hA0
  have hsz : (DataW.weightsEach Try.prog Try.f4.params.toList ds).all (· ≤ reachBytes) = true := hsz0
  clear hval0 hA0 hsz0
  rw [Try.params4] at hA hval hsz
  obtain ⟨v0, v1, v2, d0, d1, d2, p0, p1, p2, rfl, rfl, rfl, h0, h1, h2⟩ := trodAll_three hA
  obtain ⟨A0, n0, c0, xs0, rfl, r0, b0⟩ := arg_slice ops_ns Try.underlying23 (hval 0 _ v0 rfl rfl) h0 (weight_at hsz (j := 0) rfl rfl)
  obtain ⟨cs1, a1, rfl, r1, b1⟩ := arg_struct ops_op Try.underlying36 (hval 1 _ v1 rfl rfl) h1 (weight_at hsz (j := 1) rfl rfl)
  obtain ⟨cs2, a2, rfl, r2, b2⟩ := arg_struct ops_op Try.underlying36 (hval 2 _ v2 rfl rfl) h2 (weight_at hsz (j := 2) rfl rfl)
  obtain ⟨q1, q2, q3, q4, q5⟩ := ns_of r0
  obtain ⟨X1, m1, k1, rfl, dx1⟩ := op_arr r1
  obtain ⟨X2, m2, k2, rfl, dx2⟩ := op_arr r2
  exact blocksEither_walk W A0 n0 c0 _ q1 q3 q2 q4 _ _ X1 X2 m1 k1 m2 k2 dx1 dx2

/-- BlocksEither, for every input: the statement as it was given. -/
theorem blocksEither_holds : Rows.BlocksEitherSaid :=
  OpenClaim.holds_of_wide 4 Try.f4 rfl rfl rfl rfl rfl rfl rfl ⟨rfl, rfl, rfl, rfl, rfl⟩ rfl rfl rfl rfl rfl (by kernel_rfl) Try.func4 (by kernel_rfl)
    (of_decide_eq_true (by kernel_rfl)) (by unfold Func.isWrapper; first | (rw [if_pos (by decide +kernel)]; kernel_rfl) | (rw [if_neg (by decide +kernel)]; exact ⟨rfl, rfl⟩))
    (fun os started H enc _ => blocksEither_lifted os started H enc)
end Go.Proofs.Ytfgoaedgiomlkaa
