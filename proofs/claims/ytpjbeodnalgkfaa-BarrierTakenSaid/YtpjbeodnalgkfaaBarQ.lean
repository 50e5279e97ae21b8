/- Layer 17: what happens, in memory: orders are delivered, doubled, lost. -/
import Derived.Test.YtpjbeodnalgkfaaBarY
set_option linter.all false
namespace Go.Proofs.Ytpjbeodnalgkfaa
open Go.RowKit
namespace Bar
section
variable (w : World)
set_option maxRecDepth 100000 in
set_option maxHeartbeats 8000000 in
theorem wdo3_ (B : Nat) (P : Nat → Prop) (wb cg : Nat) (gs : Nat → Nat) (av ov xv iv : Value) (W : Wd) (h : WmX w B P wb cg gs av ov xv iv W) {N : Nat} (hL : Lim N W) (hN : N ≤ 100000) (d : Dod) (hF : DoF d) (hkd : d.kd % 8 = 3) :
    Calls Try.prog 36 #[.pointer (some ⟨wb, 0, none⟩), .agg (doa d)] w fun r w' => WdoA B P wb cg gs av (wDo W d) w w' r := by
  have hba : Below w.heap.size w (w.alloc (.cells (doa d) 66)) := (Below.refl _ _).alloc (Nat.le_refl _) _
  have hbd : Blk (w.alloc (.cells (doa d) 66)) w.heap.size 66 (doa d) := Blk.new w _ _ rfl
  have hwl := h.lt
  have hlow := h.low
  have h1 := h.keep hba
  have hB1 : Fr B P w (w.alloc (.cells (doa d) 66)) := Fr.ofBelow hba
  obtain ⟨w1, hw1⟩ : ∃ w1, w.alloc (.cells (doa d) 66) = w1 := ⟨_, rfl⟩
  have hs1 : w1.heap.size = w.heap.size + 1 := by rw [← hw1]; simp
  obtain ⟨gd, hgd⟩ : ∃ g, w.heap.size = g := ⟨_, rfl⟩
  have Hw := Lib.hid hw1
  have Hg := Lib.hid hgd
  rw [hw1] at hbd h1 hB1
  rw [hgd] at hbd hs1
  have hgl : gd < w1.heap.size := by omega
  have hgw : gd ≠ wb := by have := hwl.1; omega
  have hgc : gd ≠ cg ∧ gd ≠ cg + 1 := by have := hwl.2.1; omega
  have hgg : ∀ i, i < W.g.length → gd ≠ gs i ∧ gd ≠ gs i + 1 := fun i hi => by have := hwl.2.2 i hi; omega
  obtain ⟨kk, hkk⟩ : ∃ k, d.kd = k := ⟨_, rfl⟩
  have t0 : ((d.kd : Int) % 8 == 0) = false := by rw [mod8 hkd]; decide
  have t1 : ((d.kd : Int) % 8 == 1) = false := by rw [mod8 hkd]; decide
  have t2 : ((d.kd : Int) % 8 == 2) = false := by rw [mod8 hkd]; decide
  have t3 : ((d.kd : Int) % 8 == 3) = true := by rw [mod8 hkd]; decide
  have hkl : (d.kd : Int) < 256 := by have := hF.kd; omega
  have hkn : (0 : Int) ≤ (d.kd : Int) := by omega
  have hI := hF.id
  have d0 := hbd.cell (j := 0) (u := .int .u8 (d.kd : Int)) rfl
  have d1 := hbd.cell (j := 1) (u := .int .i64 d.id) rfl
  have d2 := hbd.cell (j := 2) (u := .int .i64 d.i) rfl
  obtain ⟨c0, c1, c2, c3, c4⟩ := h1.cs
  have hwc := h1.wbC
  have H1 := Lib.hid h1
  have HL := Lib.hid hL
  have hWD := Lib.hid (show wDo W d = wTwo W d.i from by unfold wDo; rw [hkd]; try rfl)
  have h8 : (d.kd : Int) % 8 = 3 := by omega
  have hm3 : ((d.kd : Int) % 8 != 3) = false := by rw [h8]; decide
  have hm4 : (d.kd : Int) % 8 < 4 := by omega
  clear h8
  obtain ⟨AI, cI, hiv, hcI, hmI, hnI⟩ := own_form h1.os
  obtain ⟨n, hn⟩ : ∃ n, W.os.length = n := ⟨_, rfl⟩
  rw [hn] at hiv hcI
  rw [hiv] at c2
  have Hn := Lib.hid hn
  have Hiv := Lib.hid hiv
  have hnN : n ≤ 305 := by have := hL.os; omega
  have hox : w1.ownsRow B 74 3 (.slice AI n cI) n (ods W.os) := by have := H1.out.os; rw [Hiv.out] at this; rw [← Hn.out]; rw [← Hn.out] at this; exact this
  unfold maxLen at hmI
  clear h h1 hL hba hw1 hgd hkk hkd hF hiv hn hnI c0 c1 c3 c4
  by_cases ha : 0 ≤ d.i ∧ d.i < (n : Int)
  · have t8 : decide (d.i < 0) = false := decide_eq_false (by omega)
    have t9 : decide ((n : Int) ≤ d.i) = false := decide_eq_false (by omega)
    have hd0 := ha.1
    have hdn := ha.2
    clear ha
    go_enter Try.func36, Try.ntmps36
    go_wp2_with fail
    rw [Hw.out, Hg.out]
    go_quiet (fail)
    have H2 := Lib.hid (H1.out.drewN nq)
    have hB2 := hB1.drewN nq
    have hox2 := own_keep hox (below_drewN (Below.refl _ _) nq)
    have hbd2 := hbd.keep (below_drewN (Below.refl _ _) nq)
    have c2 : (w1.drewN nq).cell? ⟨wb, 2, none⟩ = some (.slice AI n cI) := c2
    have d0 : (w1.drewN nq).cell? ⟨gd, 0, none⟩ = some (.int .u8 (d.kd : Int)) := d0
    have d2 : (w1.drewN nq).cell? ⟨gd, 2, none⟩ = some (.int .i64 d.i) := d2
    have hgl : gd < (w1.drewN nq).heap.size := hgl
    clear hox H1 hB1 hbd hs1
    generalize w1.drewN nq = w2 at *
    obtain ⟨k, hdk⟩ : ∃ k : Nat, d.i = (k : Int) := ⟨d.i.toNat, by omega⟩
    have hk : k < n := by omega
    obtain ⟨b, o, rfl, x, hxk, x0, x1, x2⟩ := ods_get (show Rd w2 AI 3 n (ods W.os) from rd_own hox2) hk
    have hbo := hox2.lt b rfl
    rw [hdk] at d2
    have k1 : (k : Int) < (n : Int) := by omega
    have k2 : (0 : Int) ≤ (k : Int) := by omega
    have k3 : k ≤ cI := by omega
    have k4 : (k : Int) ≤ (cI : Int) := by omega
    have k5 : (k : Int) + 1 ≤ (n : Int) := by omega
    have k6 : (0 : Int) ≤ (k : Int) + 1 := by omega
    have k7 : ((k : Int) + 1).toNat = k + 1 := by omega
    have k8 : k + 1 ≤ cI := by omega
    have k9 : k + 1 ≤ n := by omega
    have k10 : (k : Int) + 1 ≤ (cI : Int) := by omega
    have e8 : IntKind.i64.wrap ((k : Int) + 1) = (k : Int) + 1 := IntWalk.i64_in _ (by omega)
    obtain ⟨i0, hi0', hz0, hz1, hz2⟩ := order_info
    have Hz := Lib.hid hz2
    clear hz2
    have hzb : Below w2.heap.size w2 (w2.alloc (.cells #[.int .i64 0, .int .i64 0, .int .i64 0] 74)) := (Below.refl _ _).alloc (Nat.le_refl _) _
    have zc : (w2.alloc (.cells #[.int .i64 0, .int .i64 0, .int .i64 0] 74)).cell? ⟨wb, 2, none⟩ = some (.slice (some ⟨b, o, none⟩) n cI) := (hzb.cell (cell_lt c2)).trans c2
    have zd := (hzb.cell (cell_lt d2)).trans d2
    have z0 := (hzb.cell (cell_lt x0)).trans x0
    have z1 := (hzb.cell (cell_lt x1)).trans x1
    have z2 := (hzb.cell (cell_lt x2)).trans x2
    have hza : Below w2.heap.size w2 (w2.alloc (.cells #[.int .i64 x.a, .int .i64 x.k, .int .i64 x.id] 74)) := (Below.refl _ _).alloc (Nat.le_refl _) _
    have hbe : Blk (w2.alloc (.cells #[.int .i64 x.a, .int .i64 x.k, .int .i64 x.id] 74)) w2.heap.size 74 #[.int .i64 x.a, .int .i64 x.k, .int .i64 x.id] := Blk.new w2 _ _ rfl
    clear hzb
    go_wp2_with fail
    go_region
    have h3 := H2.out.keep (below_drew hza)
    have hB3 : Fr B P w (w2.alloc (.cells #[.int .i64 x.a, .int .i64 x.k, .int .i64 x.id] 74)).drew := hB2.trans (Fr.ofBelow (below_drew hza))
    have hox3 := own_keep hox2 (below_drew hza)
    have hbe3 : Blk (w2.alloc (.cells #[.int .i64 x.a, .int .i64 x.k, .int .i64 x.id] 74)).drew w2.heap.size 74 #[.int .i64 x.a, .int .i64 x.k, .int .i64 x.id] := hbe
    have hbd3 := hbd2.keep (below_drew hza)
    have hwlt := H2.out.lt
    obtain ⟨w3, hw3⟩ : ∃ w3, (w2.alloc (.cells #[.int .i64 x.a, .int .i64 x.k, .int .i64 x.id] 74)).drew = w3 := ⟨_, rfl⟩
    obtain ⟨ge, hge⟩ : ∃ g, w2.heap.size = g := ⟨_, rfl⟩
    rw [hw3] at h3 hB3 hox3 hbe3 hbd3 ⊢
    rw [hge] at hbe3 hwlt hgl ⊢
    have hgwe : ge ≠ wb ∧ ge ≠ gd := by omega
    have hgce : ge ≠ cg ∧ ge ≠ cg + 1 := by have := hwlt.2.1; omega
    have cr : w3.cell? ⟨wb, 2, none⟩ = some (.slice (some ⟨b, o, none⟩) n cI) := by rw [← Hiv.out]; exact h3.blk.cell rfl
    have dr := hbd3.cell (j := 2) (u := .int .i64 d.i) rfl
    rw [hdk] at dr
    have H3 := Lib.hid h3
    clear h3 hw3 hge hza hbe hox2 hbd2 H2 hB2 zc zd z0 z1 z2 x0 x1 x2 d0 d2 c2
    have hy : W.os.getD k ⟨0, 0, 0⟩ = x := by rw [List.getD, hxk]; rfl
    have hxI : I64 x.id := HL.out.osI x (List.mem_of_getElem? hxk)
    have hWE := Lib.hid (show wDo W d = wOrd W x by
      rw [hWD.out]
      unfold wTwo
      rw [if_pos (by rw [Hn.out]; simp [hasI]; omega), hdk, Int.toNat_natCast, hy])
    have g9 := hbd3.cell (j := 0) (u := .int .u8 (d.kd : Int)) rfl
    have g0 := hbe3.cell (j := 0) (u := .int .i64 x.a) rfl
    have g1 := hbe3.cell (j := 1) (u := .int .i64 x.k) rfl
    have g2 := hbe3.cell (j := 2) (u := .int .i64 x.id) rfl
    have hOr := worder_ w3 B P wb cg gs av _ xv iv _ H3.out HL.out hN x hxI
    clear hWD hy hxk hdk hd0 hdn t8 t9 hbe3 hbd3
    go_wp2_with fail
    refine hOr.mono ?_
    rintro r w7 ⟨ov7, xv7, iv7, rfl, h7, hb7⟩
    go_wp2
    go_end0
    rw [hWE.out]
    exact ⟨_, _, _, rfl, h7, hB3.trans hb7⟩
  · have hWE := Lib.hid (show wDo W d = W by
      rw [hWD.out]
      unfold wTwo
      rw [if_neg (by rw [Hn.out]; simp [hasI]; omega)])
    clear hWD
    by_cases ha0 : d.i < 0
    · have t8 : decide (d.i < 0) = true := decide_eq_true ha0
      clear ha ha0
      go_enter Try.func36, Try.ntmps36
      go_wp2_with fail
      rw [Hw.out, Hg.out]
      go_quiet (fail)
      go_wp2
      refine bodyPost_ret (results_none rfl _ _ _) rfl ?_
      rw [hWE.out]
      exact ⟨_, _, _, rfl, H1.out.keep (by first | exact below_drew (Below.refl _ _) | exact below_drewN (Below.refl _ _) _), by first | exact hB1.drew | exact hB1.drewN _⟩
    · have t8 : decide (d.i < 0) = false := decide_eq_false ha0
      have t9 : decide ((n : Int) ≤ d.i) = true := decide_eq_true (by omega)
      clear ha ha0
      go_enter Try.func36, Try.ntmps36
      go_wp2_with fail
      rw [Hw.out, Hg.out]
      go_quiet (fail)
      go_wp2
      refine bodyPost_ret (results_none rfl _ _ _) rfl ?_
      rw [hWE.out]
      exact ⟨_, _, _, rfl, H1.out.keep (by first | exact below_drew (Below.refl _ _) | exact below_drewN (Below.refl _ _) _), by first | exact hB1.drew | exact hB1.drewN _⟩
end
end Bar
end Go.Proofs.Ytpjbeodnalgkfaa
