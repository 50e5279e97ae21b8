/- Proves PlanWhole of layer 14 (plan), for every input, with no condition: the nodes of any parts, and the op that they are together, are the document's, or refused. -/
import Derived.Test.YtdcggnfplfgcnaaPlaW
import Derived.Test.YtdcggnfplfgcnaaPlaP
import Derived.Test.YtdcggnfplfgcnaaPlaV
set_option linter.all false
namespace Go.Proofs.Ytdcggnfplfgcnaa
open Go.ChangeShapes Go.WideShapes Go.ChangeAt Go.RowKit
namespace Pla
open Blo (I64 Dat Sml FitB Opl GotN AnsN OpV opShp toOp)
open Sma (Pc Mp Mr mv Is ivs)

theorem pvs_take : ∀ (L : List (Pt × Value)) (k : Nat), (pvs L).take (k * 6) = pvs (L.take k)
  | [], k => by simp [pvs]
  | p :: L, 0 => by simp [pvs]
  | p :: L, k + 1 => by
    have hl : (pv p.1 p.2).length = 6 := rfl
    rw [pvs_cons, List.take_succ_cons, pvs_cons, List.take_append, hl, List.take_of_length_le (by rw [hl]; omega), show (k + 1) * 6 - 6 = k * 6 by omega, pvs_take L k]
theorem Ptl.take {w : World} {A : Option Addr} {n : Nat} {L : List (Pt × Value)} (h : Ptl w A n L) {k : Nat} (hk : k ≤ n) : Ptl w A k (L.take k) :=
  ⟨by rw [← pvs_take]; exact h.rd.take hk, fun p hp => h.each p (List.mem_of_mem_take hp)⟩
/-- An op that is answered: it may lie in memory. -/
def Good (u : BOp) : Prop := Mid u ∧ I64 u.kind ∧ I64 u.off ∧ ∀ z ∈ u.data, z < 18446744073709551616
theorem good_zero : Good zO := ⟨⟨by decide, by decide, .inl (by decide), .inr (.inr ⟨by decide, by decide, rfl, rfl⟩)⟩, by unfold I64 zO; simp, by unfold I64 zO; simp, by simp [zO]⟩
theorem good_go : ∀ (l : List Pt) (u : BOp), Good u → (∀ q ∈ l, ∀ z ∈ q.op.data, z < 18446744073709551616) → Good (wholeGo u l).1
  | [], u, h, _ => h
  | q :: l, u, h, hl => by
    cases hg : goesB u q.op with
    | false => rw [go_no hg]; exact good_zero
    | true =>
      rw [go_yes hg]
      refine good_go l _ ⟨(add_goes h.1 hg).1, h.2.1, h.2.2.1, fun z hz => ?_⟩ (fun x hx => hl x (by simp [hx]))
      rcases List.mem_append.1 hz with hz | hz
      · exact h.2.2.2 z hz
      · exact hl q (by simp) z hz
theorem good_whole {w : World} {A : Option Addr} {n : Nat} {L : List (Pt × Value)} (h : Ptl w A n L) : Good (wholeA (L.map Prod.fst)).1 := by
  have hlow : ∀ q ∈ L.map Prod.fst, ∀ z ∈ q.op.data, z < 18446744073709551616 := fun q hq => by
    obtain ⟨p, hp, rfl⟩ := List.mem_map.1 hq
    obtain ⟨X, m, c, _, hd⟩ := (h.each p hp).dat
    exact hd.ns.2
  cases L with
  | nil => exact good_zero
  | cons p L =>
    obtain ⟨X, m, c, _, hd⟩ := (h.each p (by simp)).dat
    exact good_go _ _ ⟨mid_start _, hd.fit.kind, hd.fit.off, by simp [startO]⟩ hlow
theorem good_dat {w : World} {base : Nat} {u : BOp} {d : Value} (h : w.ownsRow base 64 1 d u.data.length (nvs u.data)) (hg : Good u) : ∃ A c, d = .slice A u.data.length c ∧ Dat w u A u.data.length c := by
  obtain ⟨A, c, rfl, _, _, _⟩ := own_form h
  exact ⟨A, c, rfl, dat_mid h hg.1 hg.2.1 hg.2.2.1 hg.2.2.2⟩
theorem is_own {w : World} {base : Nat} {A : Option Addr} {k c : Nat} {l : List Int} (h : w.ownsRow base 3 1 (.slice A k c) k (ivs l)) (hl : ∀ z ∈ l, I64 z) : Is w A k l := ⟨rd_own h, hl⟩
section
variable (w : World)
set_option maxRecDepth 100000 in
set_option maxHeartbeats 4000000 in
theorem whole_walk (A : Option Addr) (n c : Nat) (L0 : List (Pt × Value)) (h0 : Ptl w A n L0) (hnc : n ≤ c) (hc : c ≤ 9223372036854775807) :
    Calls Try.prog 5 #[.slice A n c] w fun e w' => e = .returned (.bool true) ∧ Below w.heap.size w w' := by
  obtain ⟨k, hk⟩ : ∃ k, min n 300 = k := ⟨_, rfl⟩
  have hmin : min (n : Int) 300 = (k : Int) := by omega
  have hkn : k ≤ n := by omega
  have hk3 : k ≤ 300 := by omega
  have hkc : (k : Int) ≤ (c : Int) := by omega
  have hk0 : (0 : Int) ≤ (k : Int) := by omega
  have h := h0.take hkn
  generalize L0.take k = L at *
  clear hk h0
  obtain ⟨r, hr⟩ : ∃ r, wholeA (L.map Prod.fst) = r := ⟨_, rfl⟩
  have hgood := good_whole h
  rw [hr] at hgood
  have HR := Lib.hid hr
  have tE : (r.2 == r.2) = true := by simp
  have hnI : ∀ z ∈ nodesA (ndsL L), I64 z := fun z hz => by
    obtain ⟨p, hp, rfl⟩ := List.mem_map.1 ((nodes_mem _ _).1 hz)
    exact (h.each p hp).nd
  obtain ⟨N, hN⟩ : ∃ N, nodesA (ndsL L) = N := ⟨_, rfl⟩
  rw [hN] at hnI
  have HN := Lib.hid hN
  obtain ⟨fk, fo, fl⟩ := (mid_i64 hgood.1 hgood.2.1 hgood.2.2.1).all
  clear hr hN
  go_enter Try.func5, Try.ntmps5
  go_wp2_with fail
  refine (back_ _ A k c L h (by omega)).mono ?_
  rintro e w1 ⟨A1, c1, rfl, -, hp1, hb1⟩
  have hL1 := h.below hb1
  go_wp2_with fail
  refine (whole_ _ A1 k c1 L hp1 (by omega)).mono ?_
  rw [HR.out]
  rintro e w2 ⟨d2, rfl, hO2, hb2⟩
  have hB2 := below_step hb1 hb2 (Nat.le_refl _)
  obtain ⟨X2, x2, rfl, hD2⟩ := good_dat hO2 hgood
  have ha2 := (Below.refl w2.heap.size w2).alloc (Nat.le_refl _) (oo r.1 (.slice X2 r.1.data.length x2))
  have hk2 := Blk.new w2 27 #[.int .i64 r.1.kind, .int .i64 r.1.off, .int .i64 r.1.len, .slice X2 r.1.data.length x2] rfl
  have hL2 := (hL1.below hb2).below ha2
  have hB3 := below_step hB2 ha2 (Nat.le_refl _)
  have hD3 := hD2.below ha2
  clear hO2 hp1 hL1 hb1 hb2 ha2 hB2 hD2
  go_wp2_with fail
  generalize (w2.alloc (oo r.1 (.slice X2 r.1.data.length x2))) = w3 at *
  refine (rwhole_ _ A k c L hL2 (by omega)).mono ?_
  rw [HR.out]
  rintro e w4 ⟨d4, rfl, hO4, hb4⟩
  have hB4 := below_step hB3 hb4 (Nat.le_refl _)
  obtain ⟨X4, x4, rfl, hD4⟩ := good_dat hO4 hgood
  have ha4 := (Below.refl w4.heap.size w4).alloc (Nat.le_refl _) (oo r.1 (.slice X4 r.1.data.length x4))
  have hk4 := Blk.new w4 27 #[.int .i64 r.1.kind, .int .i64 r.1.off, .int .i64 r.1.len, .slice X4 r.1.data.length x4] rfl
  have hk5 := (hk2.keep hb4).keep ha4
  have hL5 := (hL2.below hb4).below ha4
  have hB5 := below_step hB4 ha4 (Nat.le_refl _)
  have hD5 := (hD3.below hb4).below ha4
  have hD6 := hD4.below ha4
  clear hO4 hk2 hL2 hB3 hD3 hb4 ha4 hB4 hD4
  obtain ⟨e0, e1, e2, e3, -, -, -, -⟩ := cells4 hk5
  obtain ⟨f0, f1, f2, f3, -, -, -, -⟩ := cells4 hk4
  have hA1 : Below (w4.alloc (oo r.1 (.slice X4 r.1.data.length x4))).heap.size (w4.alloc (oo r.1 (.slice X4 r.1.data.length x4))) ((w4.alloc (oo r.1 (.slice X4 r.1.data.length x4))).alloc (oo r.1 (.slice X2 r.1.data.length x2))) := (Below.refl _ _).alloc (Nat.le_refl _) _
  have hA2 : Below (w4.alloc (oo r.1 (.slice X4 r.1.data.length x4))).heap.size (w4.alloc (oo r.1 (.slice X4 r.1.data.length x4))) (((w4.alloc (oo r.1 (.slice X4 r.1.data.length x4))).alloc (oo r.1 (.slice X2 r.1.data.length x2))).alloc (oo r.1 (.slice X4 r.1.data.length x4))) := hA1.alloc (by simp) _
  have OX : Opl (((w4.alloc (oo r.1 (.slice X4 r.1.data.length x4))).alloc (oo r.1 (.slice X2 r.1.data.length x2))).alloc (oo r.1 (.slice X4 r.1.data.length x4))) (some ⟨w4.heap.size + 1, 0, none⟩) 1 [r.1] := (Blo.os_new1 (by simp) hD5).below ((Below.refl _ _).alloc (Nat.le_refl _) _)
  have OY : Opl (((w4.alloc (oo r.1 (.slice X4 r.1.data.length x4))).alloc (oo r.1 (.slice X2 r.1.data.length x2))).alloc (oo r.1 (.slice X4 r.1.data.length x4))) (some ⟨w4.heap.size + 2, 0, none⟩) 1 [r.1] := Blo.os_new1 (by simp) (hD6.below hA1)
  have f0' := (hA1.cell (cell_lt f0)).trans f0
  have f1' := (hA1.cell (cell_lt f1)).trans f1
  have f2' := (hA1.cell (cell_lt f2)).trans f2
  have f3' := (hA1.cell (cell_lt f3)).trans f3
  have hL6 := hL5.below hA2
  have hB6 := below_step hB5 hA2 (Nat.le_refl _)
  clear hL5 hB5 hA1 hA2 hD5 hD6 hk4 hk5
  go_wp2_with fail
  refine (Blo.same_ _ _ _ 1 1 1 1 [r.1] OX OY (by omega)).mono ?_
  rintro e w7 ⟨rfl, j7, rfl⟩
  have hL7 := hL6.drewN j7
  have hB7 := below_drewN hB6 j7
  clear e0 e1 e2 e3 f0 f1 f2 f3 f0' f1' f2' f3' OX OY hL6 hB6
  generalize ((((w4.alloc (oo r.1 (.slice X4 r.1.data.length x4))).alloc (oo r.1 (.slice X2 r.1.data.length x2))).alloc (oo r.1 (.slice X4 r.1.data.length x4))).drewN j7) = w7 at *
  go_wp2_with fail
  refine (back_ _ A k c L hL7 (by omega)).mono ?_
  rintro e w8 ⟨A8, c8, rfl, -, hp8, hb8⟩
  have hL8 := hL7.below hb8
  have hB8 := below_step hB7 hb8 (Nat.le_refl _)
  go_wp2_with fail
  refine (nodes_ _ A8 k c8 L hp8 (by omega)).mono ?_
  rw [HN.out]
  rintro e w9 ⟨A9, n9, c9, rfl, hO9, hb9⟩
  have hL9 := hL8.below hb9
  have hB9 := below_step hB8 hb9 (Nat.le_refl _)
  clear hp8 hL7 hL8 hB7 hB8 hb8 hb9
  go_wp2_with fail
  refine (rnodes_ _ A k c L hL9 (by omega)).mono ?_
  rw [HN.out]
  rintro e w10 ⟨A10, n10, c10, rfl, hO10, hb10⟩
  have hI9 := is_own (own_keep hO9 hb10) hnI
  have hI10 := is_own hO10 hnI
  have hB10 := below_step hB9 hb10 (Nat.le_refl _)
  obtain ⟨_, _, e9, h9a, h9b, -⟩ := own_form hO9
  injection e9 with q1 q2 q3
  have hn9 : n9 ≤ 9223372036854775807 := by subst q3; unfold maxLen at h9b; omega
  clear hO9 hO10 hL9 hB9 hb10 h9a h9b q1 q2 q3
  go_wp2_with fail
  refine (rints_ _ A9 A10 n9 n10 c9 c10 N hI9 hI10 hn9).mono ?_
  rintro e w11 ⟨rfl, j11, rfl⟩
  go_wp2_with fail
  refine (alive_ _).mono ?_
  rintro e w12 ⟨rfl, hb12⟩
  go_wp2
  go_ret
  exact ⟨rfl, below_step (below_drewN hB10 _) hb12 (Nat.le_refl _)⟩
end
end Pla
open Pla

set_option maxRecDepth 100000 in
theorem planWhole_lifted (os : Os) (started : os.Started) (H : Type) (enc : TypeId × Value → H) :
    ReturnsInHanded {} Try.checked os 5 .any (Rows.planWholeSpec.pre6 enc Try.prog Try.f5 Rows.planWholeRow.domain false) (Rows.planWholeSpec.post enc Try.prog Try.f5 false true false false) := by
  refine law_lifted (C := Try.checked) (tb := 4) own_ started (by kernel_rfl) Try.func5
    (ChangeSpec.witness6 (enc := enc) (C := Try.checked) false ⟨#[], #[.slice none 0 0], []⟩ 8 (by kernel_rfl) (by kernel_rfl) (by kernel_rfl) (by kernel_rfl))
    rfl rfl Try.underlying4 laidOut_ (by kernel_rfl) (fun ds h => by match ds, h with | [_], _ => rfl) ?_
  intro W base args ds p hval0 hA0 _ hsz0
  have hval : ∀ (j : Nat) t v, Try.f5.params[j]? = some t → args[j]? = some v → Value.okWide Try.prog W .any base t v := hval0
  have hA : DataW.TrodAll enc Try.prog W 0 (fun _ => true) true Try.f5.params.toList args.toList ds p := hA0
  have hsz : (DataW.weightsEach Try.prog Try.f5.params.toList ds).all (· ≤ reachBytes) = true := hsz0
  clear hval0 hA0 hsz0
  rw [Try.params5] at hA hval hsz
  obtain ⟨v0, d0, rfl, rfl, h0⟩ := trodAll_one hA
  obtain ⟨A0, n0, c0, xs0, rfl, r0, b0⟩ := arg_slice ops_pts Try.underlying35 (hval 0 _ v0 rfl rfl) h0 (weight_at hsz (j := 0) rfl rfl)
  exact by
    obtain ⟨L, hL, hnc, hc⟩ := pts_ptl r0
    exact whole_walk W A0 n0 c0 L hL hnc hc

/-- PlanWhole, for every input: the statement as it was given. -/
theorem planWhole_holds : Rows.PlanWholeSaid :=
  OpenClaim.holds_of_wide 5 Try.f5 rfl rfl rfl rfl rfl rfl rfl ⟨rfl, rfl, rfl, rfl, rfl⟩ rfl rfl rfl rfl rfl (by kernel_rfl) Try.func5 (by kernel_rfl)
    (of_decide_eq_true (by kernel_rfl)) (by unfold Func.isWrapper; first | (rw [if_pos (by decide +kernel)]; kernel_rfl) | (rw [if_neg (by decide +kernel)]; exact ⟨rfl, rfl⟩))
    (fun os started H enc _ => planWhole_lifted os started H enc)
end Go.Proofs.Ytdcggnfplfgcnaa
