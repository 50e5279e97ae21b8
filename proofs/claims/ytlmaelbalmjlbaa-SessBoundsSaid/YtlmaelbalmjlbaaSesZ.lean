/- XSesZ, XSesBg. -/
import Derived.Test.YtlmaelbalmjlbaaSesX
import Derived.Lib.MinMax
set_option linter.all false
namespace Go.Proofs.Ytlmaelbalmjlbaa
open Go.RowKit
namespace Ses
open Net
/-- 'n & 1'. -/
theorem and1 (z : Int) : ∃ s : Bool, bits .and .i64 z 1 = ((so s : Nat) : Int) := by
  have h : ∀ q : Nat, q ≤ 1 → IntKind.i64.wrap (q : Int) = (q : Int) := fun q hq => by rw [IntKind.wrap_i64]; omega
  unfold bits
  simp only [BitVec.toNat_and, BitVec.toNat_ofInt]
  have e : ((1 : Int) % ((2 ^ IntKind.i64.bits : Nat) : Int)).toNat = 1 := by decide
  rw [e, h _ Nat.and_le_right]
  have hl := Nat.and_le_right (n := (z % ((2 ^ IntKind.i64.bits : Nat) : Int)).toNat) (m := 1)
  rcases Nat.le_one_iff_eq_zero_or_eq_one.1 hl with q | q
  · exact ⟨false, by rw [q]; rfl⟩
  · exact ⟨true, by rw [q]; rfl⟩
def sideB (z : Int) : Bool := decide (bits .and .i64 z 1 = 1)
theorem side_is (z : Int) : bits .and .i64 z 1 = ((so (sideB z) : Nat) : Int) := by
  obtain ⟨s, hs⟩ := and1 z
  unfold sideB
  rw [hs]
  cases s <;> rfl
def doA (a : Dod) : DoA := match a.kd % 6 with
  | 0 => .send a.d
  | 1 => .step
  | 2 => .del a.i
  | 3 => .lose a.i
  | 4 => .twice a.i
  | _ => .turn a.i a.at_ a.y
theorem mod6 {kd r : Nat} (h : kd % 6 = r) (j : Int) : ((kd : Int) % 6 == j) = decide (j = (r : Int)) := by
  by_cases e : j = (r : Int)
  · subst e; simp; omega
  · rw [decide_eq_false e, beq_eq_false_iff_ne]; omega
theorem WmX.bset2 {w0 w w' : World} {B wb : Nat} {e : Bool → Nat} {bv sv : Bool → Value} {W : Wd} (h : WmX w0 B wb e bv sv W) (hs : w0.heap.size ≤ w'.heap.size) (hb : Below B w w') (j : Nat) (u : Value) : Below B w (w'.setCell ⟨wb, j, none⟩ u) :=
  hb.grown (grown_setCell _ _ _) (by have := h.low.1; have := h.lt.1; omega) (fun k q => by injection q with q; have := h.low.1; simp only at q; omega)
theorem rd_fu2 {S : Nat → Prop} {w w' : World} {A : Option Addr} {n : Nat} {d : List UInt8} (h : Bs w A n d) (hf : Fu S w w') (hs : ∀ a, A = some a → ¬ S a.block) : Bs w' A n d := bs_fu h hf hs
theorem rd_lt2 {w : World} {A : Option Addr} {n : Nat} {d : List UInt8} (hr : Bs w A n d) : ∀ a, A = some a → 0 < n → a.block < w.heap.size := fun a ha hn => by
  obtain ⟨b, o, e, hx, hc⟩ := Rd.at_ hr hn
  rw [ha] at e
  injection e with e
  subst e
  exact cell_lt hc
section
variable (w : World)
set_option maxRecDepth 100000 in
set_option maxHeartbeats 8000000 in
theorem wdo_ (B wb : Nat) (e : Bool → Nat) (bv sv : Bool → Value) (W : Wd) (h : WmX w B wb e bv sv W) {k : Nat} (hI : Inv W k) (hk : k < 2000) (a : Dod) (Y : Option Addr) (y q : Nat) (hA : Ddt w a Y y q) (hAB : ∀ x, Y = some x → 0 < y → x.block < B) :
    Calls Try.prog 27 #[.pointer (some ⟨wb, 0, none⟩), .agg (da a (.slice Y y q))] w fun r w' => WdoA B wb e (wDo W (sideB a.side) (doA a)) w w' r := by
  have hbd : Blk (w.alloc (.cells (da a (.slice Y y q)) 58)) w.heap.size 58 (da a (.slice Y y q)) := Blk.new w _ _ rfl
  have hba : Below w.heap.size w (w.alloc (.cells (da a (.slice Y y q)) 58)) := (Below.refl _ _).alloc (Nat.le_refl _) _
  have hsa : (w.alloc (.cells (da a (.slice Y y q)) 58)).heap.size = w.heap.size + 1 := by simp
  have hwl := h.lt
  have hlow := h.low
  obtain ⟨w1, hw1⟩ : ∃ w1, w.alloc (.cells (da a (.slice Y y q)) 58) = w1 := ⟨_, rfl⟩
  rw [hw1] at hbd hba hsa
  have h1 := h.keep hba
  have hB1 : Below B w w1 := hba.mono (by omega)
  have hA1 := hA.below hba
  obtain ⟨gd, hgd⟩ : ∃ g, w.heap.size = g := ⟨_, rfl⟩
  rw [hgd] at hbd hsa
  obtain ⟨s, hs⟩ : ∃ s, sideB a.side = s := ⟨_, rfl⟩
  have hsd := side_is a.side
  rw [hs] at hsd ⊢
  have hj2 := so_lt s
  obtain ⟨j, hj⟩ : ∃ j, so s = j := ⟨_, rfl⟩
  have Hj := Lib.hid hj
  rw [hj] at hsd hj2
  have hji : (j : Int) < 2 := by omega
  have hj0 : (0 : Int) ≤ (j : Int) := by omega
  have Hw := Lib.hid hw1
  have hkd := hA.kd
  have hgb : gd ≠ wb := by have := hwl.1; omega
  have hge : ∀ t, gd ≠ e t := fun t => by have := hwl.2 t; omega
  have k0 : w1.cell? ⟨gd, 0, none⟩ = some (.int .u8 (a.kd : Int)) := hbd.cell rfl
  have k1 : w1.cell? ⟨gd, 1, none⟩ = some (.int .i64 a.side) := hbd.cell rfl
  have k2 : w1.cell? ⟨gd, 2, none⟩ = some (.int .i64 a.i) := hbd.cell rfl
  have k3 : w1.cell? ⟨gd, 3, none⟩ = some (.int .i64 a.at_) := hbd.cell rfl
  have k4 : w1.cell? ⟨gd, 4, none⟩ = some (.int .u8 (a.y.toNat : Int)) := hbd.cell rfl
  have k5 : w1.cell? ⟨gd, 5, none⟩ = some (.slice Y y q) := hbd.cell rfl
  have hgl : gd < w1.heap.size := by omega
  have Hgd := Lib.hid hgd
  have hI2 := Lib.hid hI
  have H1 := Lib.hid h1
  have HA := Lib.hid hA
  have HAB := Lib.hid hAB
  have hle := hlow.2
  have hlB : B ≤ w.heap.size := by omega
  clear hs hj h hA hI hba hAB
  have enter : True := trivial
  rcases (show a.kd % 6 = 0 ∨ a.kd % 6 = 1 ∨ a.kd % 6 = 2 ∨ a.kd % 6 = 3 ∨ a.kd % 6 = 4 ∨ a.kd % 6 = 5 by omega) with c | c | c | c | c | c
  · have Hc := Lib.hid (show doA a = .send a.d by unfold doA; rw [c]; rfl)
    have t0 : ((a.kd : Int) % 6 == 0) = true := by rw [mod6 c]; decide
    clear c hlow
    go_enter Try.func27, Try.ntmps27
    obtain ⟨i0, hi0, hz0, hz1, hz2⟩ := bytes_info
    have Hz := Lib.hid hz2
    obtain ⟨i1, hi1, hy0, hy1, hy2⟩ := info_parts info_u8
    have Hy := Lib.hid hy2
    clear hz2 hy2
    have cE := H1.out.cE s
    rw [Hj.out] at cE
    have hyl := HA.out.d.far
    have HYl := Lib.hid HA.out.d.bs.len
    have hS : ∀ p, Calls Try.prog 12 #[.pointer (some ⟨e s, 0, none⟩), .slice Y y q] (w1.drewN p) (fun r w2 => r = .returned (.int .i64 (sndE (W.e s) a.d)) ∧ Ed w2 (e s) (fun k => Nm w1 wb e sv k ∨ w1.heap.size ≤ k) (sndS (W.e s) a.d) ∧ Fu (fun k => k = e s) w1 w2) := fun p => by
      refine (send_ (w1.drewN p) (e s) _ (W.e s) ((H1.out.ends s).drewN p) Y y q a.d (hA1.d.bs.drewN p) hA1.d.nil hA1.d.le hA1.d.cap).mono ?_
      rintro r w2 ⟨e1, e2, e3⟩
      exact ⟨e1, e2, ⟨e3.os, e3.tape, e3.output, e3.size, e3.block⟩⟩
    go_wp2_with fail
    go_region_held3 (fun w2 => w2.cell? ⟨wb, j, none⟩ = some (.pointer (some ⟨e s, 0, none⟩)) ∧ w2.cell? ⟨gd, 5, none⟩ = some (.slice Y y q))
      (first | go_keep | exact ⟨cE, k5⟩ | exact ⟨fu_cell hF2 cE (fun q => H1.out.new s q.symm), fu_cell hF2 k5 (hge s)⟩)
      (first | (go_at_call 12; refine (hS _).mono ?_; rintro r w2 ⟨rfl, hE2, hF2⟩))
    have h2 := H1.out.endTo s hF2 hE2
    have hB2 := hB1.trans (H1.out.below hF2 (fun k q => .inr (.inl ⟨_, q⟩)))
    have hs2 := hF2.size
    have j5 := fu_cell hF2 k5 (hge s)
    have hbs2 : Bs w2 Y y a.d := by
      by_cases hn : y = 0
      · have hd : a.d = [] := List.eq_nil_of_length_eq_zero (by rw [← HYl.out]; exact hn)
        rw [hd, hn]; exact Bs.nil
      · exact rd_fu2 hA1.d.bs hF2 (fun x ea q => by have := HAB.out x ea (by omega); have := hle s; omega)
    rename_i hheld
    clear hheld hS cE k0 k1 k2 k3 k4 k5 hE2 hF2 hbd hw1
    by_cases hz : sndE (W.e s) a.d = 0
    · have t9 := eq_t hz
      have HD := Lib.hid (show wDo W s (doA a) = { W with e := upd W.e s (sndS (W.e s) a.d), s := upd W.s s (W.s s ++ [a.d]) } by rw [Hc.out]; show wSend W s a.d = _; unfold wSend; rw [if_pos hz])
      obtain ⟨W2, hW2⟩ : ∃ V, ({ W with e := upd W.e s (sndS (W.e s) a.d) } : Wd) = V := ⟨_, rfl⟩
      rw [hW2] at h2
      obtain ⟨L, hv, hdat, hmap⟩ := h2.sent s
      obtain ⟨A, c, hsv, hc, hcm, hcn⟩ := own_form hv
      obtain ⟨n, hn⟩ : ∃ n, L.length = n := ⟨_, rfl⟩
      have Hn := Lib.hid hn
      have hn2 : n ≤ 2000 := by
        have h0 := congrArg List.length hmap
        rw [List.length_map, hn, ← hW2] at h0
        have := (hI2.out.sd s).len
        have h1 : n = (W.s s).length := h0
        omega
      have cS := h2.cS s
      rw [hsv, hn, Hj.out] at cS
      rw [hsv] at hv
      rw [hn] at hv hc hcn
      have HW2 := Lib.hid hW2
      have Hsv := Lib.hid (show sv s = .slice A n c by rw [hsv, hn])
      unfold maxLen at hcm
      have hlow2 := h2.low
      have hwl2 := h2.lt
      have H2 := Lib.hid h2
      have hd12 : a.d.length ≤ 1200 := by
        unfold sndE at hz
        split at hz
        · cases hz
        · omega
      clear hz hW2 hsv hn h2
      go_wp2_with fail
      have hF0 := H2.out.blk.free (4 + j)
      go_region_law (first
        | (refine step_app _ rfl (.const (.slice none 0 0)) (.tmp 44) _ rfl w2.heap.size 5 i1 _ 1 1 Try.underlying34 hi1 hy0 hy1 Hy.out rfl (by omega) (.slice none 0 0) 0 [] rfl (own_nil _ _ _ _) Y y q (bvs a.d) rfl (fun h => (HA.out.d.nil h).1) (show Rd w2.drew Y 1 y (bvs a.d) from hbs2) (bvs_one _) (by unfold maxLen; omega) (by omega) (Nat.le_refl _) ?_
           intro vB wB hownB hgB hatB
           obtain ⟨AB, cB, rfl, hcB, hmB, haB⟩ := own_form hownB
           simp only [Nat.zero_add, List.nil_append] at hownB hcB haB ⊢
           have hbB : Below w2.heap.size w2 wB := ⟨hgB.os, hgB.tape, hgB.output, hgB.size, fun k hk => hgB.block k hk (fun e => by cases e)⟩
           have hbC : Below wB.heap.size wB (wB.alloc (.cells #[.slice AB y cB] 34)) := (Below.refl _ _).alloc (Nat.le_refl _) _
           have hsB : w2.heap.size ≤ wB.heap.size := hbB.size
           have hsC : (wB.alloc (.cells #[.slice AB y cB] 34)).heap.size = wB.heap.size + 1 := by simp
           have hBC : Below w2.heap.size w2 (wB.alloc (.cells #[.slice AB y cB] 34)) := hbB.trans (hbC.mono hsB)
           have cSB : wB.cell? ⟨wb, 4 + j, none⟩ = some (.slice A n c) := (hbB.cell (cell_lt cS)).trans cS
           have cSC : (wB.alloc (.cells #[.slice AB y cB] 34)).cell? ⟨wb, 4 + j, none⟩ = some (.slice A n c) := (hBC.cell (cell_lt cS)).trans cS
           have hvC := own_keep hv hBC
           have hnew : Rd (wB.alloc (.cells #[.slice AB y cB] 34)) (some ⟨wB.heap.size, 0, none⟩) 1 1 [.slice AB y cB] := Rd.new wB _ _ (0, 0) (sz := 1) (n := 1) rfl
           have hbasC : B ≤ (wB.alloc (.cells #[.slice AB y cB] 34)).heap.size := by have := hwl2.1; have := hlow2.1; omega)
        | (refine step_app _ rfl (.tmp 42) (.tmp 46) _ rfl B 34 i0 _ 1 24 Try.underlying28 hi0 hz0 hz1 Hz.out rfl (by omega) (.slice A n c) n (lvs L) rfl hvC _ 1 1 [.slice AB y cB] rfl (by simp) hnew (by simp [Value.oneCell']) (by unfold maxLen; omega) (by omega) hbasC ?_
           intro vD wD hownD hgD hatD
           obtain ⟨AD, cD, rfl, hcD, hmD, haD⟩ := own_form hownD
           have hkD := (H2.out.blk.keep hBC).grown hgD (fun q => H2.out.svW s (by rw [Hsv.out]; exact q.symm))
           have kD : wD.cell? ⟨wb, 4 + j, none⟩ = some (.slice A n c) := (hgD.cell cSC (fun q => H2.out.svW s (by rw [Hsv.out]; exact q.symm)))
           have fD := hkD.free (4 + j)))
      all_goals (
        have hC := H2.out.keep hBC
        have hx : Dt (wB.alloc (.cells #[.slice AB y cB] 34)) (Nm (wB.alloc (.cells #[.slice AB y cB] 34)) wb e sv) (.slice AB y cB) a.d := (Dt.own (U := fun k => w2.heap.size ≤ k) (own_keep hownB hbC) hd12 (fun k hk => hk)).sub (fun k hk hl => H2.out.nm hBC.size (.inr hk) hl)
        have hdC : ∀ p ∈ L, Dt (wB.alloc (.cells #[.slice AB y cB] 34)) (Nm (wB.alloc (.cells #[.slice AB y cB] 34)) wb e sv) p.1 p.2 := fun p hp => ((hdat p hp).keep hBC).sub (fun k hk hl => H2.out.nm hBC.size (.inl hk) hl)
        have h5 := hC.sentTo s hx (by rw [Hsv.out]; exact hgD) hmap hdC (by rw [Hn.out]; exact hownD) (by rw [Hsv.out]; exact hatD.imp id (fun q => ⟨_, q, Nat.le_refl _⟩))
        rw [Hj.out, ← HW2.out] at h5
        have hB6 := H2.out.bset2 (by have := hgD.size; have := hBC.size; omega) (((hB2.trans (hBC.mono (by have := hlow2.1; have := hwl2.1; omega))).grown hgD hbasC (fun k q => (hv.lt k q).1))) (4 + j) (.slice AD (n + 1) cD)
        clear hC hx hdC hownD hgD hatD hkD kD fD hnew hvC cSC cSB hownB hgB hatB
        go_wp2
        go_end0
        unfold WdoA
        rw [HD.out]
        exact ⟨_, _, rfl, h5, hB6⟩)
    · have t9 := eq_f hz
      have HD := Lib.hid (show wDo W s (doA a) = { W with e := upd W.e s (sndS (W.e s) a.d) } by
        rw [Hc.out]; show wSend W s a.d = _; unfold wSend
        rw [if_neg hz, show sndS (W.e s) a.d = W.e s by unfold sndS; rw [if_neg hz], upd_self])
      clear hz
      go_wp2
      go_end0
      unfold WdoA
      rw [HD.out]
      exact ⟨_, sv, rfl, h2, hB2⟩
  · have Hc := Lib.hid (show doA a = .step by unfold doA; rw [c]; rfl)
    have t0 : ((a.kd : Int) % 6 == 0) = false := by rw [mod6 c]; decide
    have t1 : ((a.kd : Int) % 6 == 1) = true := by rw [mod6 c]; decide
    clear c hlow
    go_enter Try.func27, Try.ntmps27
    have hC := wstep_ w1 B wb e bv sv W H1.out hI2.out (by omega) s
    rw [Hj.out] at hC
    go_wp2_with fail
    refine hC.mono ?_
    rintro r w2 ⟨bv2, sv2, rfl, h2, hB2⟩
    go_wp2
    go_end0
    unfold WdoA
    rw [Hc.out]
    exact ⟨bv2, sv2, rfl, h2, hB1.trans hB2⟩
  · have Hc := Lib.hid (show doA a = .del a.i by unfold doA; rw [c]; rfl)
    have t0 : ((a.kd : Int) % 6 == 0) = false := by rw [mod6 c]; decide
    have t1 : ((a.kd : Int) % 6 == 1) = false := by rw [mod6 c]; decide
    have t2 : ((a.kd : Int) % 6 == 2) = true := by rw [mod6 c]; decide
    clear c hlow
    go_enter Try.func27, Try.ntmps27
    have hC := wdel_ w1 B wb e bv sv W H1.out hI2.out (by omega) s a.i
    rw [Hj.out] at hC
    go_wp2_with fail
    refine hC.mono ?_
    rintro r w2 ⟨bv2, sv2, rfl, h2, hB2⟩
    go_wp2
    go_end0
    unfold WdoA
    rw [Hc.out]
    exact ⟨bv2, sv2, rfl, h2, hB1.trans hB2⟩
  · have Hc := Lib.hid (show doA a = .lose a.i by unfold doA; rw [c]; rfl)
    have t0 : ((a.kd : Int) % 6 == 0) = false := by rw [mod6 c]; decide
    have t1 : ((a.kd : Int) % 6 == 1) = false := by rw [mod6 c]; decide
    have t2 : ((a.kd : Int) % 6 == 2) = false := by rw [mod6 c]; decide
    have t3 : ((a.kd : Int) % 6 == 3) = true := by rw [mod6 c]; decide
    clear c hlow
    go_enter Try.func27, Try.ntmps27
    have hR : ∀ p, Calls Try.prog 39 #[.pointer (some ⟨wb, 2 + j, none⟩), .int .i64 a.i] (w1.drewN p) (fun r w2 => RTakA wb 68 (2 + j) (bctx e bv sv W s) (Nm (w1.drewN p) wb e sv) (W.b s) a.i (w1.drewN p) w2 r) := fun p => by
      have := rtake_ (w1.drewN p) wb 68 (2 + so s) _ (bhole s) _ _ ((H1.out.keep (below_drewN (Below.refl _ _) p)).bag s) (fun k hk => hk.2.2.2) (fun q => q.1 rfl) a.i
      rw [Hj.out] at this
      exact this
    go_wp2_with fail
    go_region_held3 (fun w2 => w2.cell? ⟨gd, 2, none⟩ = some (.int .i64 a.i))
      (first | go_keep | exact k2 | exact fu_cell hF2 (show (w1.drewN _).cell? _ = _ from k2) hgb)
      (first | (go_at_call 39; refine (hR _).mono ?_; rintro r w2 ⟨_, _, _, rfl, _, _, _, _, _, hR2, hF2⟩))
    have hF3 : Fu (fun k => k = wb) w1 w2 := ⟨hF2.os, hF2.tape, hF2.output, hF2.size, hF2.block⟩
    rw [← Hj.out] at hR2
    obtain ⟨bx, h2⟩ := (H1.out.keep (below_drewN (Below.refl _ _) 1)).bagTo s hF2 hR2
    go_wp2
    go_end0
    unfold WdoA
    rw [Hc.out]
    exact ⟨_, sv, rfl, h2, hB1.trans (H1.out.below hF3 (fun k q => .inl q))⟩
  · have Hc := Lib.hid (show doA a = .twice a.i by unfold doA; rw [c]; rfl)
    have t0 : ((a.kd : Int) % 6 == 0) = false := by rw [mod6 c]; decide
    have t1 : ((a.kd : Int) % 6 == 1) = false := by rw [mod6 c]; decide
    have t2 : ((a.kd : Int) % 6 == 2) = false := by rw [mod6 c]; decide
    have t3 : ((a.kd : Int) % 6 == 3) = false := by rw [mod6 c]; decide
    have t4 : ((a.kd : Int) % 6 == 4) = true := by rw [mod6 c]; decide
    clear c hlow
    go_enter Try.func27, Try.ntmps27
    have hR : ∀ p, Calls Try.prog 40 #[.pointer (some ⟨wb, 2 + j, none⟩), .int .i64 a.i] (w1.drewN p) (fun r w2 => r = .returned (.int .i64 (twiE (W.b s) a.i)) ∧ Rg w2 wb 68 (2 + j) (bctx e bv sv W s) (fun k => Nm (w1.drewN p) wb e sv k ∨ (w1.drewN p).heap.size ≤ k) (twiS (W.b s) a.i) ∧ Fu (fun k => k = wb) (w1.drewN p) w2) := fun p => by
      have := rtwice_ (w1.drewN p) wb 68 (2 + so s) _ (bhole s) _ _ ((H1.out.keep (below_drewN (Below.refl _ _) p)).bag s) (fun k hk => hk.2.2.2) (fun q => q.1 rfl) a.i
      rw [Hj.out] at this
      exact this
    go_wp2_with fail
    go_region_held3 (fun w2 => w2.cell? ⟨gd, 2, none⟩ = some (.int .i64 a.i))
      (first | go_keep | exact k2 | exact fu_cell hF2 (show (w1.drewN _).cell? _ = _ from k2) hgb)
      (first | (go_at_call 40; refine (hR _).mono ?_; rintro r w2 ⟨rfl, hR2, hF2⟩))
    have hF3 : Fu (fun k => k = wb) w1 w2 := ⟨hF2.os, hF2.tape, hF2.output, hF2.size, hF2.block⟩
    rw [← Hj.out] at hR2
    obtain ⟨bx, h2⟩ := (H1.out.keep (below_drewN (Below.refl _ _) 1)).bagTo s hF2 hR2
    go_wp2
    go_end0
    unfold WdoA
    rw [Hc.out]
    exact ⟨_, sv, rfl, h2, hB1.trans (H1.out.below hF3 (fun k q => .inl q))⟩
  · have Hc := Lib.hid (show doA a = .turn a.i a.at_ a.y by unfold doA; rw [c]; rfl)
    have t0 : ((a.kd : Int) % 6 == 0) = false := by rw [mod6 c]; decide
    have t1 : ((a.kd : Int) % 6 == 1) = false := by rw [mod6 c]; decide
    have t2 : ((a.kd : Int) % 6 == 2) = false := by rw [mod6 c]; decide
    have t3 : ((a.kd : Int) % 6 == 3) = false := by rw [mod6 c]; decide
    have t4 : ((a.kd : Int) % 6 == 4) = false := by rw [mod6 c]; decide
    clear c hlow
    go_enter Try.func27, Try.ntmps27
    have hR : ∀ p, Calls Try.prog 41 #[.pointer (some ⟨wb, 2 + j, none⟩), .int .i64 a.i, .int .i64 a.at_, .int .u8 (a.y.toNat : Int)] (w1.drewN p) (fun r w2 => r = .returned (.int .i64 (turE (W.b s) a.i a.at_ a.y)) ∧ Rg w2 wb 68 (2 + j) (bctx e bv sv W s) (fun k => Nm (w1.drewN p) wb e sv k ∨ (w1.drewN p).heap.size ≤ k) (turS (W.b s) a.i a.at_ a.y) ∧ Fu (fun k => k = wb) (w1.drewN p) w2) := fun p => by
      have := rturn_ (w1.drewN p) wb 68 (2 + so s) _ (bhole s) _ _ ((H1.out.keep (below_drewN (Below.refl _ _) p)).bag s) (fun k hk => hk.2.2.2) (fun q => q.1 rfl) a.i a.at_ a.y HA.out.at_
      rw [Hj.out] at this
      exact this
    go_wp2_with fail
    go_region_held3 (fun w2 => w2.cell? ⟨gd, 2, none⟩ = some (.int .i64 a.i) ∧ w2.cell? ⟨gd, 3, none⟩ = some (.int .i64 a.at_) ∧ w2.cell? ⟨gd, 4, none⟩ = some (.int .u8 (a.y.toNat : Int)))
      (first | go_keep | exact ⟨k2, k3, k4⟩ | exact ⟨fu_cell hF2 (show (w1.drewN _).cell? _ = _ from k2) hgb, fu_cell hF2 (show (w1.drewN _).cell? _ = _ from k3) hgb, fu_cell hF2 (show (w1.drewN _).cell? _ = _ from k4) hgb⟩)
      (first | (go_at_call 41; refine (hR _).mono ?_; rintro r w2 ⟨rfl, hR2, hF2⟩))
    have hF3 : Fu (fun k => k = wb) w1 w2 := ⟨hF2.os, hF2.tape, hF2.output, hF2.size, hF2.block⟩
    rw [← Hj.out] at hR2
    obtain ⟨bx, h2⟩ := (H1.out.keep (below_drewN (Below.refl _ _) 1)).bagTo s hF2 hR2
    go_wp2
    go_end0
    unfold WdoA
    rw [Hc.out]
    exact ⟨_, sv, rfl, h2, hB1.trans (H1.out.below hF3 (fun k q => .inl q))⟩
end
end Ses
end Go.Proofs.Ytlmaelbalmjlbaa

set_option linter.all false
namespace Go.Proofs.Ytlmaelbalmjlbaa
open Go.RowKit
namespace Ses
open Net
abbrev wz (x y : Option Addr) : Array Value := #[.pointer x, .pointer y, .slice none 0 0, .slice none 0 0, .slice none 0 0, .slice none 0 0, .int .i64 0, .int .i64 0, .bool false]
/-- Behind so many rounds of begin. -/
def Bgn (w : World) (B wb i : Nat) : Prop :=
  (i = 0 ∧ Blk w wb 68 (wz none none)) ∨
  (i = 1 ∧ ∃ a, Blk w wb 68 (wz (some ⟨a, 0, none⟩) none) ∧ Ed w a (fun _ => False) (newS 3 4 9) ∧ B ≤ a ∧ a ≠ wb) ∨
  (i = 2 ∧ ∃ a b, Blk w wb 68 (wz (some ⟨a, 0, none⟩) (some ⟨b, 0, none⟩)) ∧ Ed w a (fun _ => False) (newS 3 4 9) ∧ Ed w b (fun _ => False) (newS 4 3 9) ∧ B ≤ a ∧ a ≠ wb ∧ B ≤ b ∧ b ≠ wb ∧ a ≠ b)
theorem Bgn.two {w : World} {B wb : Nat} (h : Bgn w B wb 2) (hB : B ≤ wb) : ∃ e, WmX w B wb e (fun _ => .slice none 0 0) (fun _ => .slice none 0 0) wd0 := by
  rcases h with ⟨h, _⟩ | ⟨h, _⟩ | ⟨_, a, b, hb, ha, hc, h1, h2, h3, h4, h5⟩
  · cases h
  · cases h
  refine ⟨fun s => if s then b else a, hb, fun s => ?_, fun s => ⟨none, 0, 0, [], rfl, ⟨Rd.nil, fun _ => rfl, Nat.le_refl _, by omega, rfl, fun a e => (by cases e), by simp, by omega⟩, rfl⟩, fun s => ⟨[], own_nil _ _ _ _, by simp, rfl⟩, ⟨hB, fun s => by cases s <;> simp <;> omega⟩, fun s => by cases s <;> simp <;> assumption, by simpa using h5, fun s g q => (by cases q)⟩
  cases s
  · exact ha.sub (fun k hk _ => hk.elim) (fun q => q.2.1 false rfl)
  · exact hc.sub (fun k hk _ => hk.elim) (fun q => q.2.1 true rfl)
section
variable (w : World)
set_option maxRecDepth 100000 in
set_option maxHeartbeats 4000000 in
theorem wbegin_ : Calls Try.prog 26 #[] w fun r w' => ∃ wb, (r = .returned (.tuple #[.pointer (some ⟨wb, 0, none⟩), .bool true]) ∧ w.heap.size ≤ wb) ∧ Bgn w' w.heap.size wb 2 ∧ Below w.heap.size w w' := by
  have hb0 : Blk (w.alloc (.cells (wz none none) 68)) w.heap.size 68 (wz none none) := Blk.new w _ _ rfl
  have hba : Below w.heap.size w (w.alloc (.cells (wz none none) 68)) := (Below.refl _ _).alloc (Nat.le_refl _) _
  have hsa : (w.alloc (.cells (wz none none) 68)).heap.size = w.heap.size + 1 := by simp
  go_enter Try.func26, Try.ntmps26
  go_wp2_with fail
  obtain ⟨w1, hw1⟩ : ∃ w1, w.alloc (.cells (wz none none) 68) = w1 := ⟨_, rfl⟩
  rw [hw1] at hb0 hba hsa ⊢
  obtain ⟨wb, hwb⟩ : ∃ b, w.heap.size = b := ⟨_, rfl⟩
  rw [hwb] at hb0 hba hsa ⊢
  go_loopw [8] (fun iv wr => ∃ i : Nat, i ≤ 2 ∧ iv = .int .i64 (i : Int) ∧ Bgn wr wb wb i ∧ Below wb w wr ∧ w1.heap.size ≤ wr.heap.size) (fun iv _ => 2 - (intOf iv).toNat)
  case atStart => exact ⟨0, by omega, rfl, .inl ⟨rfl, hb0⟩, hba, Nat.le_refl _⟩
  case round =>
    obtain ⟨i, hi, rfl, hG, hB, hsz⟩ := hrel
    rcases hG with ⟨rfl, hb⟩ | ⟨rfl, a, hb, ha, hal, han⟩ | ⟨rfl, hG⟩
    · have hnw := new_yes wr 3 4 9 (by decide)
      go_wp2_with fail
      refine hnw.mono ?_
      rintro r w2 ⟨rfl, hE, hb2, hs2⟩
      obtain ⟨a, ha⟩ : ∃ a, wr.heap.size = a := ⟨_, rfl⟩
      rw [ha] at hE hs2 hb2 ⊢
      have hbk := hb.keep (by rw [ha]; exact hb2)
      have c0 := hbk.cell (j := 0) (u := .pointer none) rfl
      have f0 := hbk.free 0
      have haw : a ≠ wb := by omega
      have hB2 := (hB.trans (hb2.mono (by omega))).grown (grown_setCell w2 ⟨wb, 0, none⟩ (.pointer (some ⟨a, 0, none⟩))) (by omega) (fun k q => by injection q with q; simp only at q; omega)
      have hbs : Blk (w2.setCell ⟨wb, 0, none⟩ (.pointer (some ⟨a, 0, none⟩))) wb 68 (wz (some ⟨a, 0, none⟩) none) := hbk.setCell 0 _
      have hEs : Ed (w2.setCell ⟨wb, 0, none⟩ (.pointer (some ⟨a, 0, none⟩))) a (fun _ => False) (newS 3 4 9) := hE.fu (S := fun k => k = wb) (fu_set1 (Fu.refl _ _) 0 _) (fun k hk => hk.elim) haw
      have hss : w2.heap.size ≤ (w2.setCell ⟨wb, 0, none⟩ (.pointer (some ⟨a, 0, none⟩))).heap.size := (grown_setCell w2 ⟨wb, 0, none⟩ _).size
      have hal : wb ≤ a := by omega
      have hsz2 : w1.heap.size ≤ w2.heap.size := by omega
      clear ha hb hE hbk hB
      go_wp2
      exact ⟨⟨1, by omega, rfl, .inr (.inl ⟨rfl, a, hbs, hEs, hal, haw⟩), hB2, by omega⟩, by simp [intOf]⟩
    · have hnw := new_yes wr 4 3 9 (by decide)
      have hlt := ha.lt
      go_wp2_with fail
      refine hnw.mono ?_
      rintro r w2 ⟨rfl, hE, hb2, hs2⟩
      obtain ⟨b, hbe⟩ : ∃ a, wr.heap.size = a := ⟨_, rfl⟩
      have ha2 := ha.keep hb2
      rw [hbe] at hE hs2 hb2 hlt ⊢
      have hbk := hb.keep (by rw [hbe]; exact hb2)
      have c0 := hbk.cell (j := 1) (u := .pointer none) rfl
      have f0 := hbk.free 1
      have haw : b ≠ wb := by omega
      have hB2 := (hB.trans (hb2.mono (by omega))).grown (grown_setCell w2 ⟨wb, 1, none⟩ (.pointer (some ⟨b, 0, none⟩))) (by omega) (fun k q => by injection q with q; simp only at q; omega)
      have hbs : Blk (w2.setCell ⟨wb, 1, none⟩ (.pointer (some ⟨b, 0, none⟩))) wb 68 (wz (some ⟨a, 0, none⟩) (some ⟨b, 0, none⟩)) := hbk.setCell 1 _
      have hEs : Ed (w2.setCell ⟨wb, 1, none⟩ (.pointer (some ⟨b, 0, none⟩))) b (fun _ => False) (newS 4 3 9) := hE.fu (S := fun k => k = wb) (fu_set1 (Fu.refl _ _) 1 _) (fun k hk => hk.elim) haw
      have haS : Ed (w2.setCell ⟨wb, 1, none⟩ (.pointer (some ⟨b, 0, none⟩))) a (fun _ => False) (newS 3 4 9) := ha2.fu (S := fun k => k = wb) (fu_set1 (Fu.refl _ _) 1 _) (fun k hk => hk.elim) han
      have hss : w2.heap.size ≤ (w2.setCell ⟨wb, 1, none⟩ (.pointer (some ⟨b, 0, none⟩))).heap.size := (grown_setCell w2 ⟨wb, 1, none⟩ _).size
      have hbl : wb ≤ b := by omega
      have hab : a ≠ b := by omega
      have hsz2 : w1.heap.size ≤ w2.heap.size := by omega
      clear hbe hb hE hbk hB ha ha2
      go_wp2
      exact ⟨⟨2, by omega, rfl, .inr (.inr ⟨rfl, a, b, hbs, haS, hEs, hal, han, hbl, haw, hab⟩), hB2, by omega⟩, by simp [intOf]⟩
    · have HG := Lib.hid (show Bgn wr wb wb 2 from .inr (.inr ⟨rfl, hG⟩))
      clear hG
      go_wp2
      go_ret2
      exact ⟨wb, ⟨rfl, by omega⟩, by rw [hwb]; exact HG.out, by rw [hwb]; exact hB⟩
end
end Ses
end Go.Proofs.Ytlmaelbalmjlbaa
