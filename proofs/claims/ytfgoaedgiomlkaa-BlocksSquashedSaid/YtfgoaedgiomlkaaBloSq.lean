/- Proves BlocksSquashed of layer 8 (blocks), for every input, with no condition: Squash does what all ops do, in ops that do not meet. -/
import Derived.Test.YtfgoaedgiomlkaaBloW
set_option linter.all false
namespace Go.Proofs.Ytfgoaedgiomlkaa
open Go.ChangeShapes Go.WideShapes Go.ChangeAt Go.RowKit
open Blo

theorem rise_at {l : List BOp} (h : l.Pairwise fun a b => a.off + a.cnt ≤ b.off) {p : Nat} {x y : BOp} (hx : l[p]? = some x) (hy : l[p + 1]? = some y) : x.off + x.cnt ≤ y.off := by
  obtain ⟨h1, rfl⟩ := List.getElem?_eq_some_iff.1 hx
  obtain ⟨h2, rfl⟩ := List.getElem?_eq_some_iff.1 hy
  exact List.pairwise_iff_getElem.1 h p (p + 1) h1 h2 (by omega)
theorem rise_meet {x y : BOp} (h : x.off + x.cnt ≤ y.off) : meetB x y = false := by
  rw [Bool.eq_false_iff]
  intro e
  simp only [meetB, Bool.and_eq_true, decide_eq_true_eq] at e
  omega
set_option maxRecDepth 100000 in
set_option maxHeartbeats 8000000 in
theorem blocksSquashed_walk (w : World) (A : Option Addr) (n c : Nat) (v : List Nat) (hv : Ns w A n v) (hA : A = none → n = 0 ∧ c = 0) (hnc : n ≤ c) (hc : c ≤ 9223372036854775807) (B : Option Addr) (k d : Nat) (l : List BOp) (hl : Opl w B k l) (hk : k ≤ 9223372036854775807) :
    Calls Try.prog 5 #[.slice A n c, .slice B k d] w fun e w' => e = .returned (.bool true) ∧ Below w.heap.size w w' := by
  have Hlen := Lib.hid hv.len
  have hni : I64 (n : Int) := by unfold I64; omega
  by_cases h0 : apE n l = 0
  · obtain ⟨hm, hr⟩ := apE_ok h0
    have hn := many_nat hm
    obtain ⟨x, hx⟩ : ∃ x, apL v l = x := ⟨_, rfl⟩
    have hm' : manyB v.length = true := by rw [← Hlen.out]; exact hm
    have hr' : l.all (·.right (v.length : Int)) = true := by rw [← Hlen.out]; exact hr
    have hxv : x = vol n (l.foldl doF (fun_ v)) := by rw [← hx, apL_ok hm' hr', ← Hlen.out]
    obtain ⟨s, hs⟩ : ∃ s, shortS (fun i => told l (i : Int)) n = s := ⟨_, rfl⟩
    have hs1 : sqL n l = s := by rw [sqL_of hm hr, hs]
    have hsr : s.all (·.right (n : Int)) = true := by rw [← hs]; exact short_right hm
    have hsr' : s.all (·.right (v.length : Int)) = true := by rw [← Hlen.out]; exact hsr
    have hs2 : apL v s = x := by rw [apL_ok hm' hsr', ← Hlen.out, hxv, ← hs]; exact vol_short l (fun_ v)
    have hrise : s.Pairwise fun a b => a.off + a.cnt ≤ b.off := by rw [← hs]; exact short_rise _ _
    have H0 := Lib.hid h0
    have Hx := Lib.hid hx
    have Hs1 := Lib.hid hs1
    have Hs2 := Lib.hid hs2
    have He1 := Lib.hid (sqE_of hm hr)
    have He2 := Lib.hid (apE_of hm hsr)
    have HSR := Lib.hid hsr
    have HRI := Lib.hid hrise
    clear h0 hx hs1 hs2 hs hxv hm hr hsr hm' hr' hsr' hrise
    go_enter Try.func5, Try.ntmps5
    go_wp2_with fail
    refine (apply_ w A n c v hv hA hnc hc B k d l hl hk).mono ?_
    rw [H0.out, Hx.out]
    rintro e w1 ⟨A1, m1, c1, rfl, g1, hb1⟩
    go_wp2_with fail
    refine (squash w1 n B k d l hni (hl.below hb1) hk).mono ?_
    rw [He1.out, Hs1.out]
    rintro e w3 ⟨A3, m3, c3, rfl, g3, hb3⟩
    have g1' := g1.keep hb3
    have hB3 := below_step hb1 hb3 (Nat.le_refl _)
    have y3 := g3.bounds
    clear g1 hb1 hb3
    go_wp2_with fail
    refine (apply_ w3 A n c v (hv.below hB3) hA hnc hc A3 m3 c3 s g3.os (by omega)).mono ?_
    rw [He2.out, Hs2.out]
    rintro e w4 ⟨A4, m4, c4, rfl, g4, hb4⟩
    have z1 := g1'.bounds
    have p1 := (g1'.keep hb4).ns
    have p3 := (g3.keep hb4).os
    have p4 := g4.ns
    have hB4 := below_step hB3 hb4 (Nat.le_refl _)
    clear g1' g3 g4 hB3 hb4
    go_wp2_with fail
    refine (words_ w4 A1 A4 m1 m4 c1 c4 x x p1 p4 (by omega)).mono ?_
    rw [decide_eq_true (rfl : x = x)]
    rintro e w5 ⟨rfl, j5, rfl⟩
    have p3' := p3.drewN j5
    have hB5 := below_drewN hB4 j5
    clear p1 p3 p4 hB4
    go_wp2_with fail
    generalize w4.drewN j5 = w5 at *
    have Hm3 := Lib.hid p3'.len
    go_loopw [53] (fun iv wr => ∃ i : Nat, i ≤ m3 ∧ iv = .int .i64 (i : Int) ∧ Opl wr A3 m3 s ∧ Below w.heap.size w wr) (fun iv _ => m3 - (intOf iv).toNat)
    case atStart => exact ⟨0, Nat.zero_le _, rfl, p3', hB5⟩
    case round =>
      obtain ⟨i, hi, rfl, hO, hb⟩ := hrel
      clear p3' hB5
      by_cases hlt : i < m3
      · have hil : (i : Int) < (m3 : Int) := by omega
        have hi0 : (0 : Int) ≤ (i : Int) := by omega
        rcases Nat.eq_zero_or_pos i with h0 | h0
        · have hg : decide ((0 : Int) < (i : Int)) = false := by simp; omega
          have hg2 : decide (0 < i) = false := by simp; omega
          have hg3 : ¬ 0 < i := by omega
          clear h0
          go_wp2_with fail
          go_quiet (fail)
          go_wp2
          go_roundw
          case rel => exact ⟨i + 1, by omega, by go_num, hO.drewN _, below_drewN hb _⟩
          case measure => simp [intOf]; omega
        · obtain ⟨p, hip⟩ : ∃ p, i = p + 1 := ⟨i - 1, by omega⟩
          obtain ⟨b, o, X, xm, xc, x1, rfl, hx1, c0, c1', c2, c3', dx⟩ := hO.at_ (k := p) (by omega)
          obtain ⟨b', o', Y, ym, yc, y1, e', hy1, f0, f1, f2, f3, dy⟩ := hO.at_ hlt
          injection e' with e'
          injection e' with e1 e2
          subst e1 e2
          have hri := rise_at HRI.out hx1 (by rw [← hip]; exact hy1)
          have hok1 := all_right HSR.out (List.mem_of_getElem? hx1)
          have hok2 := all_right HSR.out (List.mem_of_getElem? hy1)
          have hme := rise_meet hri
          have hlo : ¬ y1.off ≤ x1.off := by have := hok1.some; omega
          have hpos : (0 : Int) < (i : Int) := by omega
          have hpos2 : 0 < i := by omega
          have hpos3 : decide (0 < i) = true := by simp; omega
          have hw1 : IntKind.i64.wrap ((i : Int) - 1) = (p : Int) := by rw [IntKind.wrap_i64]; omega
          have hp0 : (0 : Int) ≤ (p : Int) := by omega
          have hpm : (p : Int) < (m3 : Int) := by omega
          have hos := hO
          clear hip h0 hri hx1 hy1 hO
          go_wp2_with fail
          go_region_held3 (fun w' => w'.cell? ⟨b, o + p * 4, none⟩ = some (.int .i64 x1.kind) ∧ w'.cell? ⟨b, o + p * 4 + 1, none⟩ = some (.int .i64 x1.off) ∧ w'.cell? ⟨b, o + p * 4 + 2, none⟩ = some (.int .i64 x1.len) ∧ w'.cell? ⟨b, o + p * 4 + 3, none⟩ = some (.slice X xm xc) ∧
              w'.cell? ⟨b, o + i * 4, none⟩ = some (.int .i64 y1.kind) ∧ w'.cell? ⟨b, o + i * 4 + 1, none⟩ = some (.int .i64 y1.off) ∧ w'.cell? ⟨b, o + i * 4 + 2, none⟩ = some (.int .i64 y1.len) ∧ w'.cell? ⟨b, o + i * 4 + 3, none⟩ = some (.slice Y ym yc))
            (first | go_keep | exact ⟨c0, c1', c2, c3', f0, f1, f2, f3⟩ | exact ⟨(hb2.cell (cell_lt c0)).trans c0, (hb2.cell (cell_lt c1')).trans c1', (hb2.cell (cell_lt c2)).trans c2, (hb2.cell (cell_lt c3')).trans c3', (hb2.cell (cell_lt f0)).trans f0, (hb2.cell (cell_lt f1)).trans f1, (hb2.cell (cell_lt f2)).trans f2, (hb2.cell (cell_lt f3)).trans f3⟩)
            (first
              | (go_at_call 16; refine (meet_ _ n x1 y1 X Y xm xc ym yc hn hok1 hok2 dx.drew dy.drew).mono ?_; rw [hme]; rintro e w2 ⟨rfl, hb2⟩))
          go_wp2
          go_roundw
          case rel => exact ⟨i + 1, by omega, by go_num, hos.below (below_undrew hb2), below_step hb (below_undrew hb2) (Nat.le_refl _)⟩
          case measure => simp [intOf]; omega
      · have hin : (m3 : Int) ≤ (i : Int) := by omega
        go_wp2_with fail
        refine (alive_ _).mono ?_
        rintro e w7 ⟨rfl, hb7⟩
        go_wp2
        go_ret
        exact ⟨rfl, below_step hb hb7 (Nat.le_refl _)⟩
  · have hnil := apL_no Hlen.out h0
    obtain ⟨z, hz⟩ : ∃ z, apE n l = z := ⟨_, rfl⟩
    rw [hz] at h0
    have Hx := Lib.hid hnil
    have Hz := Lib.hid hz
    clear hz hnil
    go_enter Try.func5, Try.ntmps5
    go_wp2_with fail
    refine (apply_ w A n c v hv hA hnc hc B k d l hl hk).mono ?_
    rw [Hz.out, Hx.out]
    rintro e w1 ⟨A1, m1, c1, rfl, g1, hb1⟩
    have hm1 : m1 = 0 := g1.ns.len
    subst hm1
    go_wp2_with fail
    refine (alive_ _).mono ?_
    rintro e w7 ⟨rfl, hb7⟩
    go_wp2
    go_ret
    exact ⟨rfl, below_step hb1 hb7 (Nat.le_refl _)⟩

set_option maxRecDepth 100000 in
theorem blocksSquashed_lifted (os : Os) (started : os.Started) (H : Type) (enc : TypeId × Value → H) :
    ReturnsInHanded {} Try.checked os 5 .any (Rows.blocksSquashedSpec.pre6 enc Try.prog Try.f5 Rows.blocksSquashedRow.domain false) (Rows.blocksSquashedSpec.post enc Try.prog Try.f5 false true false false) := by
  refine law_lifted (C := Try.checked) (tb := 4) own_ started (by kernel_rfl) Try.func5
    (ChangeSpec.witness6 (enc := enc) (C := Try.checked) false ⟨#[], #[.slice none 0 0, .slice none 0 0], []⟩ 8 (by kernel_rfl) (by kernel_rfl) (by kernel_rfl) (by kernel_rfl))
    rfl rfl Try.underlying4 laidOut_ (by kernel_rfl) (fun ds h => by match ds, h with | [_, _], _ => rfl) ?_
  intro W base args ds p hval0 hA0 _ hsz0
  have hval : ∀ (j : Nat) t v, Try.f5.params[j]? = some t → args[j]? = some v → Value.okWide Try.prog W .any base t v := hval0
  have hA : DataW.TrodAll enc Try.prog W 0 (fun _ => true) true Try.f5.params.toList args.toList ds p := hA0
  have hsz : (DataW.weightsEach Try.prog Try.f5.params.toList ds).all (· ≤ reachBytes) = true := hsz0
  clear hval0 hA0 hsz0
  rw [Try.params5] at hA hval hsz
  obtain ⟨v0, v1, d0, d1, p0, p1, rfl, rfl, rfl, h0, h1⟩ := trodAll_two hA
  obtain ⟨A0, n0, c0, xs0, rfl, r0, b0⟩ := arg_slice ops_ns Try.underlying23 (hval 0 _ v0 rfl rfl) h0 (weight_at hsz (j := 0) rfl rfl)
  obtain ⟨A1, n1, c1, xs1, rfl, r1, b1⟩ := arg_slice ops_ops Try.underlying22 (hval 1 _ v1 rfl rfl) h1 (weight_at hsz (j := 1) rfl rfl)
  obtain ⟨q1, q2, q3, q4, q5⟩ := ns_of r0
  obtain ⟨os1, hn1, hc1⟩ := ops_os r1
  exact blocksSquashed_walk W A0 n0 c0 _ q1 q3 q2 q4 A1 n1 c1 _ os1 (by omega)

/-- BlocksSquashed, for every input: the statement as it was given. -/
theorem blocksSquashed_holds : Rows.BlocksSquashedSaid :=
  OpenClaim.holds_of_wide 5 Try.f5 rfl rfl rfl rfl rfl rfl rfl ⟨rfl, rfl, rfl, rfl, rfl⟩ rfl rfl rfl rfl rfl (by kernel_rfl) Try.func5 (by kernel_rfl)
    (of_decide_eq_true (by kernel_rfl)) (by unfold Func.isWrapper; first | (rw [if_pos (by decide +kernel)]; kernel_rfl) | (rw [if_neg (by decide +kernel)]; exact ⟨rfl, rfl⟩))
    (fun os started H enc _ => blocksSquashed_lifted os started H enc)
end Go.Proofs.Ytfgoaedgiomlkaa
