/- DeltaMakes: if one list has grown from the other one, the ops make what it shows of what the other one shows, over all units: for every input. -/
import Derived.Test.YtfdfjnepfgabaaaDelX
set_option linter.all false
namespace Go.Proofs.Ytfdfjnepfgabaaa
open Go.ChangeShapes Go.WideShapes Go.ChangeAt Go.RowKit

theorem vw_ok {l : List Ext} (h : rightB l = true) (u : List Nat) : vwE l 1024 = 0 ∧ vwL l 1024 u = Blo.vol 1024 (showF l u) := by
  have hv : vwB l 1024 = true := by
    have h1 := endL_le (right_is.1 h).1
    simp [vwB, h]
    exact h1
  exact ⟨by unfold vwE; rw [hv]; rfl, by unfold vwL; rw [hv]; rfl⟩
theorem op_ok {a b : List Ext} (ha : rightB a = true) (hb : rightB b = true) (gen : Int) (u : List Nat) : yoE a b = 0 ∧ opL a b gen u = shortS (deltaM a b gen u) 1024 := ⟨by unfold yoE; rw [ha, hb]; rfl, by unfold opL; rw [ha, hb]; rfl⟩
theorem vol_len (f : Int → Nat) : (Blo.vol 1024 f).length = 1024 := Blo.vol_length 1024 f
/-- The ops, done. -/
theorem ap_delta {a b : List Ext} {gen : Int} (h : grownL a b gen) (u : List Nat) : Blo.apE 1024 (shortS (deltaM a b gen u) 1024) = 0 ∧ Blo.apL (Blo.vol 1024 (showF a u)) (shortS (deltaM a b gen u) 1024) = Blo.vol 1024 (showF b u) := by
  have hm : manyB ((1024 : Nat) : Int) = true := by decide
  have hr : (shortS (deltaM a b gen u) 1024).all (·.right ((1024 : Nat) : Int)) = true := Blo.short_right hm
  refine ⟨Blo.apE_of hm hr, ?_⟩
  rw [Blo.apL_ok (by rw [vol_len]; exact hm) (by rw [vol_len]; exact hr), vol_len]
  rw [Blo.vol_told (l' := shortS (deltaM a b gen u) 1024) (g := showF a u) (fun i hi => by rw [Blo.fun_vol hi])]
  exact Blo.vol_congr fun i hi => delta_makes h u i hi
theorem below_two (w : World) (A B : Option Addr) (n c m d : Nat) : Below w.heap.size w (w.alloc (.cells #[.slice A n c, .slice B m d] 33)) := (Below.refl _ _).alloc (Nat.le_refl _) _
set_option maxRecDepth 100000 in
set_option maxHeartbeats 2000000 in
theorem deltaMakes_walk (w : World) (A B : Option Addr) (n c m d : Nat) (a b : List Ext) (ha : Es w A n a) (hn : n ≤ 9223372036854775807) (hb : Es w B m b) (hm : m ≤ 9223372036854775807) (gen : Int) (hz : I64 gen) (U : Option Addr) (k dd : Nat) (u : List Nat) (hu : Ns w U k u) (hk : k ≤ 9223372036854775807) :
    Calls Try.prog 5 #[.agg #[.slice A n c, .slice B m d], .int .i64 gen, .slice U k dd] w fun e w' => e = .returned (.bool true) ∧ Below w.heap.size w w' := by
  have hx1 := below_two w A B n c m d
  have k1 := Blk.new w 33 #[.slice A n c, .slice B m d] rfl
  have c0 := k1.cell (j := 0) (u := .slice A n c) rfl
  have c1 := k1.cell (j := 1) (u := .slice B m d) rfl
  go_enter Try.func5, Try.ntmps5
  go_wp2_with fail
  refine (Grown_ _ A B n c m d a b gen (ha.below hx1) (hb.below hx1) hn hm).mono ?_
  cases hg : grB a b gen with
  | false =>
    rintro e w2 ⟨rfl, hb2⟩
    have hB2 := below_step hx1 hb2 (Nat.le_refl _)
    go_wp2_with fail
    refine (alive9_ _).mono ?_
    rintro e w3 ⟨rfl, hb3⟩
    go_wp2
    go_ret
    exact ⟨rfl, below_step hB2 hb3 (Nat.le_refl _)⟩
  | true =>
    obtain ⟨hra, hrb, hgr⟩ := grB_iff.1 hg
    have Hap := Lib.hid (ap_delta hgr u)
    have Hop := Lib.hid (op_ok hra hrb gen u)
    have Hva := Lib.hid (vw_ok hra u)
    have Hvb := Lib.hid (vw_ok hrb u)
    rintro e w2 ⟨rfl, hb2⟩
    have hB2 := below_step hx1 hb2 (Nat.le_refl _)
    have k2 := k1.keep hb2
    have c0 := k2.cell (j := 0) (u := .slice A n c) rfl
    have c1 := k2.cell (j := 1) (u := .slice B m d) rfl
    clear k1 hb2 hx1 hg hgr hra hrb
    go_wp2_with fail
    refine (Ops_ _ A B n c m d a b gen U k dd u (ha.below hB2) (hb.below hB2) hn hm (hu.below hB2) hk).mono ?_
    rw [Hop.out.1, Hop.out.2]
    rintro e w3 ⟨A3, m3, c3, rfl, hG3, hb3⟩
    have hB3 := below_step hB2 hb3 (Nat.le_refl _)
    have k3 := k2.keep hb3
    have c0 := k3.cell (j := 0) (u := .slice A n c) rfl
    have c1 := k3.cell (j := 1) (u := .slice B m d) rfl
    clear k2 hb3 hB2
    go_wp2_with fail
    refine (view_ _ A n c a 1024 U k dd u (ha.below hB3) hn (by unfold I64; omega) (hu.below hB3) hk).mono ?_
    rw [Hva.out.1, Hva.out.2]
    rintro e w4 ⟨A4, m4, c4, rfl, hG4, hb4⟩
    have hB4 := below_step hB3 hb4 (Nat.le_refl _)
    have k4 := k3.keep hb4
    have hG3' := hG3.keep hb4
    have c1 := k4.cell (j := 1) (u := .slice B m d) rfl
    clear k3 hb4 hB3 hG3
    go_wp2_with fail
    refine (view_ _ B m d b 1024 U k dd u (hb.below hB4) hm (by unfold I64; omega) (hu.below hB4) hk).mono ?_
    rw [Hvb.out.1, Hvb.out.2]
    rintro e w5 ⟨A5, m5, c5, rfl, hG5, hb5⟩
    have hB5 := below_step hB4 hb5 (Nat.le_refl _)
    have hG3 := hG3'.keep hb5
    have hG4' := hG4.keep hb5
    have hm4 : m4 = 1024 := by have := hG4'.ns.len; rw [vol_len] at this; exact this
    subst hm4
    have hm3 := hG3.bounds
    have hm3' : m3 ≤ 9223372036854775807 := by omega
    clear k4 hb5 hB4 hG3' hG4
    go_wp2_with fail
    refine (Blo.rapply_ _ A4 1024 c4 _ hG4'.ns (by omega) A3 m3 c3 _ hG3.os hm3').mono ?_
    rw [Hap.out.1, Hap.out.2]
    rintro e w6 ⟨A6, m6, c6, rfl, hG6, hb6⟩
    have hB6 := below_step hB5 hb6 (Nat.le_refl _)
    have hG5' := hG5.keep hb6
    have hm5 : m5 ≤ 9223372036854775807 := by have := hG5'.bounds; omega
    have hn5 := hG5'.ns
    have hn6 := hG6.ns
    clear hG3 hG4' hG5 hG5' hG6 hm3
    go_wp2_with fail
    refine (words_eq _ A5 A6 m5 m6 c5 c6 _ hn5 hn6 hm5).mono ?_
    rintro e w7 ⟨rfl, hb7⟩
    have hB7 := below_step hB6 hb7 (Nat.le_refl _)
    clear hn5 hn6
    go_wp2_with fail
    refine (alive9_ _).mono ?_
    rintro e w8 ⟨rfl, hb8⟩
    go_wp2
    go_ret
    exact ⟨rfl, below_step hB7 hb8 (Nat.le_refl _)⟩

set_option maxRecDepth 100000 in
theorem deltaMakes_lifted (os : Os) (started : os.Started) (H : Type) (enc : TypeId × Value → H) :
    ReturnsInHanded {} Try.checked os 5 .any (Rows.deltaMakesSpec.pre6 enc Try.prog Try.f5 Rows.deltaMakesRow.domain false) (Rows.deltaMakesSpec.post enc Try.prog Try.f5 false true false false) := by
  refine law_lifted (C := Try.checked) (tb := 4) own_ started (by kernel_rfl) Try.func5
    (ChangeSpec.witness6 (enc := enc) (C := Try.checked) false ⟨#[], #[.agg #[.slice none 0 0, .slice none 0 0], .int .i64 0, .slice none 0 0], []⟩ 8 (by kernel_rfl) (by kernel_rfl) (by kernel_rfl) (by kernel_rfl))
    rfl rfl Try.underlying4 laidOut_ (by kernel_rfl) (fun ds h => by match ds, h with | [_, _, _], _ => rfl) ?_
  intro W base args ds p hval0 hA0 _ hsz0
  have hval : ∀ (j : Nat) t v, Try.f5.params[j]? = some t → args[j]? = some v → Value.okWide Try.prog W .any base t v := hval0
  have hA : DataW.TrodAll enc Try.prog W 0 (fun _ => true) true Try.f5.params.toList args.toList ds p := hA0
  have hsz : (DataW.weightsEach Try.prog Try.f5.params.toList ds).all (· ≤ reachBytes) = true := hsz0
  clear hval0 hA0 hsz0
  rw [Try.params5] at hA hval hsz
  obtain ⟨v0, v1, v2, d0, d1, d2, p0, p1, p2, rfl, rfl, rfl, h0, h1, h2⟩ := trodAll_three hA
  obtain ⟨cs0, a0, rfl, r0, b0⟩ := arg_struct ops_two9 Try.underlying33 (hval 0 _ v0 rfl rfl) h0 (weight_at hsz (j := 0) rfl rfl)
  obtain ⟨z1, rfl, hz1⟩ := arg_int _ _ Try.underlying3 (hval 1 _ v1 rfl rfl) h1 wf_i64
  obtain ⟨A2, n2, c2, xs2, rfl, r2, b2⟩ := arg_slice Blo.ops_ns Try.underlying23 (hval 2 _ v2 rfl rfl) h2 (weight_at hsz (j := 2) rfl rfl)
  obtain ⟨A, n, c, B, m, d, rfl, ⟨q1, q2⟩, ⟨q3, q4⟩⟩ := twoU r0
  obtain ⟨p1, p2⟩ := nsU r2
  exact deltaMakes_walk W A B n c m d _ _ q1 q2 q3 q4 z1 hz1 A2 n2 c2 _ p1 p2

/-- DeltaMakes, for every input: the statement as it was given. -/
theorem deltaMakes_holds : Rows.DeltaMakesSaid :=
  OpenClaim.holds_of_wide 5 Try.f5 rfl rfl rfl rfl rfl rfl rfl ⟨rfl, rfl, rfl, rfl, rfl⟩ rfl rfl rfl rfl rfl (by kernel_rfl) Try.func5 (by kernel_rfl)
    (of_decide_eq_true (by kernel_rfl)) (by unfold Func.isWrapper; first | (rw [if_pos (by decide +kernel)]; kernel_rfl) | (rw [if_neg (by decide +kernel)]; exact ⟨rfl, rfl⟩))
    (fun os started H enc _ => deltaMakes_lifted os started H enc)
end Go.Proofs.Ytfdfjnepfgabaaa
