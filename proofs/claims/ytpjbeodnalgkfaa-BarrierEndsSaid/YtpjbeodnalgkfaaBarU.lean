/- Layer 17: what happens, in memory: an answer is heard. -/
import Derived.Test.YtpjbeodnalgkfaaBarY
set_option linter.all false
namespace Go.Proofs.Ytpjbeodnalgkfaa
open Go.RowKit
namespace Bar
theorem ax_at {l : List An} {k : Nat} {x : Odr} (h : (l.map toO)[k]? = some x) : l.getD k ⟨0, 0, 0⟩ = ⟨x.a, x.k, x.id⟩ := by
  rw [List.getElem?_map] at h
  obtain ⟨y, hy, e⟩ := Option.map_eq_some_iff.1 h
  subst e
  rw [List.getD, hy]; rfl
section
variable (w : World)
set_option maxRecDepth 100000 in
set_option maxHeartbeats 8000000 in
theorem wdo5_ (B : Nat) (P : Nat → Prop) (wb cg : Nat) (gs : Nat → Nat) (av ov xv iv : Value) (W : Wd) (h : WmX w B P wb cg gs av ov xv iv W) {N : Nat} (hL : Lim N W) (hN : N ≤ 100000) (d : Dod) (hF : DoF d) (hkd : d.kd % 8 = 5) :
    Calls Try.prog 36 #[.pointer (some ⟨wb, 0, none⟩), .agg (doa d)] w fun r w' => WdoA B P wb cg gs av (wDo W d) w w' r := by
  have hba : Below w.heap.size w (w.alloc (.cells (doa d) 66)) := (Below.refl _ _).alloc (Nat.le_refl _) _
  have hbd : Blk (w.alloc (.cells (doa d) 66)) w.heap.size 66 (doa d) := Blk.new w _ _ rfl
  have hwl := h.lt
  have hlow := h.low
  have h1 := h.keep hba
  have hB1 : Fr B P w (w.alloc (.cells (doa d) 66)) := Fr.ofBelow hba
  obtain ⟨w1, hw1⟩ : ∃ w1, w.alloc (.cells (doa d) 66) = w1 := ⟨_, rfl⟩
  have hs1 : w1.heap.size = w.heap.size + 1 := by rw [← hw1]; simp
  obtain ⟨gd, hgd⟩ : ∃ g, w.heap.size = g := ⟨_, rfl⟩
  have Hw := Lib.hid hw1
  have Hg := Lib.hid hgd
  rw [hw1] at hbd h1 hB1
  rw [hgd] at hbd hs1
  have hgl : gd < w1.heap.size := by omega
  have hgw : gd ≠ wb := by have := hwl.1; omega
  have hgc : gd ≠ cg ∧ gd ≠ cg + 1 := by have := hwl.2.1; omega
  have hgg : ∀ i, i < W.g.length → gd ≠ gs i ∧ gd ≠ gs i + 1 := fun i hi => by have := hwl.2.2 i hi; omega
  obtain ⟨kk, hkk⟩ : ∃ k, d.kd = k := ⟨_, rfl⟩
  have t0 : ((d.kd : Int) % 8 == 0) = false := by rw [mod8 hkd]; decide
  have t1 : ((d.kd : Int) % 8 == 1) = false := by rw [mod8 hkd]; decide
  have t2 : ((d.kd : Int) % 8 == 2) = false := by rw [mod8 hkd]; decide
  have t3 : ((d.kd : Int) % 8 == 3) = false := by rw [mod8 hkd]; decide
  have t4 : ((d.kd : Int) % 8 == 4) = false := by rw [mod8 hkd]; decide
  have t5 : ((d.kd : Int) % 8 == 5) = true := by rw [mod8 hkd]; decide
  have hkl : (d.kd : Int) < 256 := by have := hF.kd; omega
  have hkn : (0 : Int) ≤ (d.kd : Int) := by omega
  have hI := hF.id
  have d0 := hbd.cell (j := 0) (u := .int .u8 (d.kd : Int)) rfl
  have d1 := hbd.cell (j := 1) (u := .int .i64 d.id) rfl
  have d2 := hbd.cell (j := 2) (u := .int .i64 d.i) rfl
  obtain ⟨c0, c1, c2, c3, c4⟩ := h1.cs
  have hwc := h1.wbC
  have H1 := Lib.hid h1
  have HL := Lib.hid hL
  have hWD := Lib.hid (show wDo W d = wHear W d.i from by unfold wDo; rw [hkd]; try rfl)
  obtain ⟨AI, cI, hiv, hcI, hmI, hnI⟩ := own_form h1.ax
  obtain ⟨n, hn⟩ : ∃ n, W.ax.length = n := ⟨_, rfl⟩
  rw [hn] at hiv hcI
  rw [hiv] at c3
  have Hn := Lib.hid hn
  have Hiv := Lib.hid hiv
  have hnN : n ≤ 300 := by have := hL.ax; omega
  have hox : w1.ownsRow B 91 3 (.slice AI n cI) n (axs W.ax) := by have := H1.out.ax; rw [Hiv.out] at this; rw [← Hn.out]; rw [← Hn.out] at this; exact this
  unfold maxLen at hmI
  clear h h1 hL hba hw1 hgd hkk hkd hF hiv hn hnI c1 c2 c4
  by_cases ha : 0 ≤ d.i ∧ d.i < (n : Int)
  · have t8 : decide (0 ≤ d.i) = true := decide_eq_true ha.1
    have t9 : decide (d.i < (n : Int)) = true := decide_eq_true ha.2
    have hd0 := ha.1
    have hdn := ha.2
    clear ha
    go_enter Try.func36, Try.ntmps36
    go_wp2_with fail
    rw [Hw.out, Hg.out]
    go_quiet (fail)
    have H2 := Lib.hid (H1.out.drewN nq)
    have hB2 := hB1.drewN nq
    have hox2 := own_keep hox (below_drewN (Below.refl _ _) nq)
    have hbd2 := hbd.keep (below_drewN (Below.refl _ _) nq)
    have c0 : (w1.drewN nq).cell? ⟨wb, 0, none⟩ = some (.pointer (some ⟨cg + 1, 0, none⟩)) := c0
    have c3 : (w1.drewN nq).cell? ⟨wb, 3, none⟩ = some (.slice AI n cI) := c3
    have d0 : (w1.drewN nq).cell? ⟨gd, 0, none⟩ = some (.int .u8 (d.kd : Int)) := d0
    have d2 : (w1.drewN nq).cell? ⟨gd, 2, none⟩ = some (.int .i64 d.i) := d2
    have hgl : gd < (w1.drewN nq).heap.size := hgl
    clear hox H1 hB1 hbd hs1
    generalize w1.drewN nq = w2 at *
    obtain ⟨k, hdk⟩ : ∃ k : Nat, d.i = (k : Int) := ⟨d.i.toNat, by omega⟩
    have hk : k < n := by omega
    obtain ⟨b, o, rfl, x, hxk, x0, x1, x2⟩ := ods_get (show Rd w2 AI 3 n (ods (W.ax.map toO)) from rd_own hox2) hk
    have hbo := hox2.lt b rfl
    rw [hdk] at d2
    have k1 : (k : Int) < (n : Int) := by omega
    have k2 : (0 : Int) ≤ (k : Int) := by omega
    have k3 : k ≤ cI := by omega
    have k4 : (k : Int) ≤ (cI : Int) := by omega
    have k5 : (k : Int) + 1 ≤ (n : Int) := by omega
    have k6 : (0 : Int) ≤ (k : Int) + 1 := by omega
    have k7 : ((k : Int) + 1).toNat = k + 1 := by omega
    have k8 : k + 1 ≤ cI := by omega
    have k9 : k + 1 ≤ n := by omega
    have k10 : (k : Int) + 1 ≤ (cI : Int) := by omega
    have e8 : IntKind.i64.wrap ((k : Int) + 1) = (k : Int) + 1 := IntWalk.i64_in _ (by omega)
    obtain ⟨i0, hi0', hz0, hz1, hz2⟩ := answer_info
    have Hz := Lib.hid hz2
    clear hz2
    have hzb : Below w2.heap.size w2 (w2.alloc (.cells #[.int .i64 0, .int .i64 0, .int .i64 0] 91)) := (Below.refl _ _).alloc (Nat.le_refl _) _
    have zc : (w2.alloc (.cells #[.int .i64 0, .int .i64 0, .int .i64 0] 91)).cell? ⟨wb, 3, none⟩ = some (.slice (some ⟨b, o, none⟩) n cI) := (hzb.cell (cell_lt c3)).trans c3
    have zd := (hzb.cell (cell_lt d2)).trans d2
    have z0 := (hzb.cell (cell_lt x0)).trans x0
    have z1 := (hzb.cell (cell_lt x1)).trans x1
    have z2 := (hzb.cell (cell_lt x2)).trans x2
    have hza : Below w2.heap.size w2 (w2.alloc (.cells #[.int .i64 x.a, .int .i64 x.k, .int .i64 x.id] 91)) := (Below.refl _ _).alloc (Nat.le_refl _) _
    have hbe : Blk (w2.alloc (.cells #[.int .i64 x.a, .int .i64 x.k, .int .i64 x.id] 91)) w2.heap.size 91 #[.int .i64 x.a, .int .i64 x.k, .int .i64 x.id] := Blk.new w2 _ _ rfl
    clear hzb
    go_wp2_with fail
    go_region
    have h3 := H2.out.keep (below_drew hza)
    have hB3 : Fr B P w (w2.alloc (.cells #[.int .i64 x.a, .int .i64 x.k, .int .i64 x.id] 91)).drew := hB2.trans (Fr.ofBelow (below_drew hza))
    have hox3 := own_keep hox2 (below_drew hza)
    have hbe3 : Blk (w2.alloc (.cells #[.int .i64 x.a, .int .i64 x.k, .int .i64 x.id] 91)).drew w2.heap.size 91 #[.int .i64 x.a, .int .i64 x.k, .int .i64 x.id] := hbe
    have hbd3 := hbd2.keep (below_drew hza)
    have hwlt := H2.out.lt
    obtain ⟨w3, hw3⟩ : ∃ w3, (w2.alloc (.cells #[.int .i64 x.a, .int .i64 x.k, .int .i64 x.id] 91)).drew = w3 := ⟨_, rfl⟩
    obtain ⟨ge, hge⟩ : ∃ g, w2.heap.size = g := ⟨_, rfl⟩
    rw [hw3] at h3 hB3 hox3 hbe3 hbd3 ⊢
    rw [hge] at hbe3 hwlt hgl ⊢
    have hgwe : ge ≠ wb ∧ ge ≠ gd := by omega
    have hgce : ge ≠ cg ∧ ge ≠ cg + 1 := by have := hwlt.2.1; omega
    have cr : w3.cell? ⟨wb, 3, none⟩ = some (.slice (some ⟨b, o, none⟩) n cI) := by rw [← Hiv.out]; exact h3.blk.cell rfl
    have dr := hbd3.cell (j := 2) (u := .int .i64 d.i) rfl
    rw [hdk] at dr
    have H3 := Lib.hid h3
    clear h3 hw3 hge hza hbe hox2 hbd2 H2 hB2 zc zd z0 z1 z2 x0 x1 x2 d0 d2 c3
    have hy := ax_at hxk
    have hWE := Lib.hid (show wDo W d = { { W with ax := W.ax.eraseIdx k } with c := hearS W.c x.a x.k x.id } by
      rw [hWD.out]
      unfold wHear
      rw [if_pos (by rw [Hn.out]; simp [hasI]; omega), hdk, Int.toNat_natCast, hy])
    clear hWD hy hxk hdk hd0 hdn t8 t9
    have hrow : Rd w3 (some ⟨b, o, none⟩) 3 n (ods (W.ax.map toO)) := rd_own hox3
    have hBs3 : B ≤ w3.heap.size := by have := hB3.size; omega
    have hrow1 : Rd w3 (some ⟨b, o, none⟩) 3 k (ods ((W.ax.map toO).take k)) := by have := hrow.take (k := k) (by omega); rwa [ods_take] at this
    rcases (show cI = k + 1 ∨ ¬ cI = k + 1 from Decidable.em _) with hce | hce
    · obtain rfl : n = k + 1 := by omega
      subst hce
      have k4q : (k : Int) ≤ (k : Int) + 1 := by omega
      have k3q : k ≤ k + 1 := by omega
      have Hdrop := Lib.hid (show (W.ax.map toO).drop (k + 1) = [] from List.drop_of_length_le (by have := Hn.out; simp; omega))
      clear hrow
      go_wp2_with fail
      refine wp_region_noPanic ?_
      refine wp_region_held_drew (S := (fun w' => w'.cell? ⟨gd, 2, none⟩ = some (.int .i64 (k : Int)))) (by kernel_rfl) dr (fun _ => ?_)
      refine wpAnyH_take (i := 0) (oi := _) (v := ?_) rfl (by kernel_rfl) (by kernel_rfl) (by kernel_rfl) (fun _ _ _ h => h) (Or.inl ⟨by kernel_rfl, ?_⟩) dr ?_
      rotate_left
      · (rintro w s0; go_simp; (first | done | rfl))
      try simp only [Act.put, List.getElem_toArray, List.getElem_cons_zero, List.getElem_cons_succ, List.setIfInBounds_toArray, List.set_cons_zero, List.set_cons_succ]
      refine wpAnyH_take (i := 1) (oi := _) (v := ?_) rfl (by kernel_rfl) (by kernel_rfl) (by kernel_rfl) (fun _ _ _ h => h) (Or.inl ⟨by kernel_rfl, ?_⟩) dr ?_
      rotate_left
      · (rintro w s0; go_simp; (first | done | rfl))
      try simp only [Act.put, List.getElem_toArray, List.getElem_cons_zero, List.getElem_cons_succ, List.setIfInBounds_toArray, List.set_cons_zero, List.set_cons_succ]
      refine wpAnyH_take (i := 2) (oi := _) (v := ?_) rfl (by kernel_rfl) (by kernel_rfl) (by kernel_rfl) (fun _ _ _ h => h) (Or.inl ⟨by kernel_rfl, ?_⟩) dr ?_
      rotate_left
      · (rintro w s0; go_simp; (first | done | rfl))
      try simp only [Act.put, List.getElem_toArray, List.getElem_cons_zero, List.getElem_cons_succ, List.setIfInBounds_toArray, List.set_cons_zero, List.set_cons_succ]
      refine wpAnyH_take (i := 3) (oi := _) (v := ?_) rfl (by kernel_rfl) (by kernel_rfl) (by kernel_rfl) (fun _ _ _ h => h) (Or.inl ⟨by kernel_rfl, ?_⟩) dr ?_
      rotate_left
      · (rintro w s0; go_simp; (first | done | rfl))
      try simp only [Act.put, List.getElem_toArray, List.getElem_cons_zero, List.getElem_cons_succ, List.setIfInBounds_toArray, List.set_cons_zero, List.set_cons_succ]
      refine wpAnyH_take (i := 5) (oi := _) (v := ?_) rfl (by kernel_rfl) (by kernel_rfl) (by kernel_rfl) (fun _ _ _ h => h) (Or.inl ⟨by kernel_rfl, ?_⟩) dr ?_
      rotate_left
      · (rintro w s0; go_simp; (first | done | rfl))
      try simp only [Act.put, List.getElem_toArray, List.getElem_cons_zero, List.getElem_cons_succ, List.setIfInBounds_toArray, List.set_cons_zero, List.set_cons_succ]
      refine wpAnyH_take (i := 6) (oi := _) (v := ?_) rfl (by kernel_rfl) (by kernel_rfl) (by kernel_rfl) (fun _ _ _ h => h) (Or.inl ⟨by kernel_rfl, ?_⟩) dr ?_
      rotate_left
      · (rintro w s0; go_simp; (first | done | rfl))
      try simp only [Act.put, List.getElem_toArray, List.getElem_cons_zero, List.getElem_cons_succ, List.setIfInBounds_toArray, List.set_cons_zero, List.set_cons_succ]
      refine wpAnyH_take (i := 9) (oi := _) (v := ?_) rfl (by kernel_rfl) (by kernel_rfl) (by kernel_rfl) (fun _ _ _ h => h) (Or.inl ⟨by kernel_rfl, ?_⟩) dr ?_
      rotate_left
      · (rintro w s0; go_simp; (first | done | rfl))
      try simp only [Act.put, List.getElem_toArray, List.getElem_cons_zero, List.getElem_cons_succ, List.setIfInBounds_toArray, List.set_cons_zero, List.set_cons_succ]
      refine wpAnyH_take (i := 10) (oi := _) (v := ?_) rfl (by kernel_rfl) (by kernel_rfl) (by kernel_rfl) (fun _ _ _ h => h) (Or.inl ⟨by kernel_rfl, ?_⟩) dr ?_
      rotate_left
      · (rintro w s0; go_simp; (first | done | rfl))
      try simp only [Act.put, List.getElem_toArray, List.getElem_cons_zero, List.getElem_cons_succ, List.setIfInBounds_toArray, List.set_cons_zero, List.set_cons_succ]
      refine wpAnyH_take (i := 11) (oi := _) (v := ?_) rfl (by kernel_rfl) (by kernel_rfl) (by kernel_rfl) (fun _ _ _ h => h) (Or.inl ⟨by kernel_rfl, ?_⟩) dr ?_
      rotate_left
      · (rintro w s0; go_simp; (first | done | rfl))
      try simp only [Act.put, List.getElem_toArray, List.getElem_cons_zero, List.getElem_cons_succ, List.setIfInBounds_toArray, List.set_cons_zero, List.set_cons_succ]
      refine wpAnyH_take (i := 13) (oi := _) (v := ?_) rfl (by kernel_rfl) (by kernel_rfl) (by kernel_rfl) (fun _ _ _ h => h) (Or.inl ⟨by kernel_rfl, ?_⟩) dr ?_
      rotate_left
      · (rintro w s0; go_simp; (first | done | rfl))
      try simp only [Act.put, List.getElem_toArray, List.getElem_cons_zero, List.getElem_cons_succ, List.setIfInBounds_toArray, List.set_cons_zero, List.set_cons_succ]
      refine wpAnyH_take (i := 14) (oi := _) (v := ?_) rfl (by kernel_rfl) (by kernel_rfl) (by kernel_rfl) (fun _ _ _ h => h) (Or.inl ⟨by kernel_rfl, ?_⟩) dr ?_
      rotate_left
      · (rintro w s0; go_simp; (first | done | rfl))
      try simp only [Act.put, List.getElem_toArray, List.getElem_cons_zero, List.getElem_cons_succ, List.setIfInBounds_toArray, List.set_cons_zero, List.set_cons_succ]
      refine wpAnyH_take (i := 15) (oi := _) (v := ?_) rfl (by kernel_rfl) (by kernel_rfl) (by kernel_rfl) (fun _ _ _ h => h) (Or.inl ⟨by kernel_rfl, ?_⟩) dr ?_
      rotate_left
      · (rintro w s0; go_simp; (first | done | rfl))
      try simp only [Act.put, List.getElem_toArray, List.getElem_cons_zero, List.getElem_cons_succ, List.setIfInBounds_toArray, List.set_cons_zero, List.set_cons_succ]
      refine wpAnyH_ready (rs := [4, 12]) (by kernel_rfl) (by simp) (AllReadyH.cons (o := _) rfl (fun K hK => ?_) (AllReadyH.cons (o := _) rfl (fun K hK => ?_) AllReadyH.nil))
      · rw [if_pos (by kernel_rfl)]
        go_simp
        refine hK.out _ _ dr (fun _ => ?_)
        clear hK K
        try simp only [Act.put, List.getElem_toArray, List.getElem_cons_zero, List.getElem_cons_succ, List.setIfInBounds_toArray, List.set_cons_zero, List.set_cons_succ]
        refine wpAnyH_take (i := 7) (oi := _) (v := ?_) rfl (by kernel_rfl) (by kernel_rfl) (by kernel_rfl) (fun _ _ _ h => h) (Or.inl ⟨by kernel_rfl, ?_⟩) dr ?_
        rotate_left
        · (rintro w s0; go_simp; (first | done | rfl))
        try simp only [Act.put, List.getElem_toArray, List.getElem_cons_zero, List.getElem_cons_succ, List.setIfInBounds_toArray, List.set_cons_zero, List.set_cons_succ]
        refine wpAnyH_ready (rs := [8, 12]) (by kernel_rfl) (by simp) (AllReadyH.cons (o := _) rfl (fun K hK => ?_) (AllReadyH.cons (o := _) rfl (fun K hK => ?_) AllReadyH.nil))
        · rw [if_pos (by kernel_rfl)]
          refine wp_app _ (.const (.slice none 0 0)) (.tmp 151) _ rfl w3.heap.size 91 i0 _ 3 24 Try.underlying70 hi0' hz0 hz1 Hz.out rfl (by omega) (.slice none 0 0) 0 [] rfl (own_nil _ _ _ _) (some ⟨b, o, none⟩) k (k + 1) (ods ((W.ax.map toO).take k)) rfl (fun e => by cases e) (show Rd w3.drew _ 3 k _ from hrow1) (ods_one _) (by unfold maxLen; omega) (by omega) (Nat.le_refl _) ?_
          intro vA wA hownA hgA hatA
          obtain ⟨AA, cA, rfl, hcA, hmA, haA⟩ := own_form hownA
          simp only [Nat.zero_add, List.nil_append] at hownA hcA haA ⊢
          have hgA' : w3.grownBy wA none := undrewG hgA
          have hsA : w3.heap.size ≤ wA.heap.size := hgA'.size
          have crA : wA.cell? ⟨wb, 3, none⟩ = some (.slice (some ⟨b, o, none⟩) (k + 1) (k + 1)) := hgA'.cell cr (fun e => by cases e)
          have drA : wA.cell? ⟨gd, 2, none⟩ = some (.int .i64 (k : Int)) := hgA'.cell dr (fun e => by cases e)
          have hrow2A := hsA
          refine hK.out _ _ drA (fun _ => ?_)
          clear hK K
          try simp only [Act.put, List.getElem_toArray, List.getElem_cons_zero, List.getElem_cons_succ, List.setIfInBounds_toArray, List.set_cons_zero, List.set_cons_succ]
          refine wpAnyH_ready (rs := [12]) (by kernel_rfl) (by simp) (AllReadyH.cons (o := _) rfl (fun K hK => ?_) AllReadyH.nil)
          rw [if_pos (by kernel_rfl)]
          go_simp
          refine hK.out _ _ drA (fun _ => ?_)
          clear hK K
          try simp only [Act.put, List.getElem_toArray, List.getElem_cons_zero, List.getElem_cons_succ, List.setIfInBounds_toArray, List.set_cons_zero, List.set_cons_succ]
          refine wpAnyH_take (i := 16) (oi := _) (v := ?_) rfl (by kernel_rfl) (by kernel_rfl) (by kernel_rfl) (fun _ _ _ h => h) (Or.inl ⟨by kernel_rfl, ?_⟩) drA ?_
          rotate_left
          · (rintro w s0; go_simp; (first | done | rfl))
          try simp only [Act.put, List.getElem_toArray, List.getElem_cons_zero, List.getElem_cons_succ, List.setIfInBounds_toArray, List.set_cons_zero, List.set_cons_succ]
          refine wpAnyH_ready (rs := [17]) (by kernel_rfl) (by simp) (AllReadyH.cons (o := _) rfl (fun K hK => ?_) AllReadyH.nil)
          rw [if_pos (by kernel_rfl)]
          refine wp_app _ (.tmp 152) (.tmp 160) _ rfl w3.heap.size 91 i0 _ 3 24 Try.underlying70 hi0' hz0 hz1 Hz.out rfl (by omega) (.slice AA k cA) k (ods ((W.ax.map toO).take k)) rfl hownA (some ⟨b, o, none⟩) 0 0 [] rfl (fun e => by cases e) Rd.nil (by simp) (by unfold maxLen; omega) (by omega) hsA ?_
          intro vD wD hownD hgD hatD
          simp only [Nat.add_zero, List.append_nil] at hownD ⊢
          obtain ⟨AD, cD, rfl, hcD, hmD, haD⟩ := own_form hownD
          have hgD' : w3.grownBy wD none := grown_step hgA' hgD (fun j e => .inl (hownA.lt j e).1)
          have kD : wD.cell? ⟨wb, 3, none⟩ = some (.slice (some ⟨b, o, none⟩) (k + 1) (k + 1)) := hgD'.cell cr (fun e => by cases e)
          have dD : wD.cell? ⟨gd, 2, none⟩ = some (.int .i64 (k : Int)) := hgD'.cell dr (fun e => by cases e)
          have fD := (H3.out.blk.grown hgD' (fun e => by cases e)).free 3
          refine hK.out _ _ dD (fun _ => ?_)
          clear hK K
          try simp only [Act.put, List.getElem_toArray, List.getElem_cons_zero, List.getElem_cons_succ, List.setIfInBounds_toArray, List.set_cons_zero, List.set_cons_succ]
          refine wpAnyH_take (i := 18) (oi := _) (v := ?_) rfl (by kernel_rfl) (by kernel_rfl) (by kernel_rfl) (fun _ _ _ h => h) (Or.inl ⟨by kernel_rfl, ?_⟩) dD ?_
          rotate_left
          · (rintro w s0; go_simp; (first | done | rfl))
          try simp only [Act.put, List.getElem_toArray, List.getElem_cons_zero, List.getElem_cons_succ, List.setIfInBounds_toArray, List.set_cons_zero, List.set_cons_succ]
          refine wpAnyH_take (i := 19) (oi := _) (v := ?_) rfl (by kernel_rfl) (by kernel_rfl) (by kernel_rfl) (fun _ _ _ h => h) (Or.inl ⟨by kernel_rfl, ?_⟩) dD ?_
          rotate_left
          · (rintro w s0; go_simp; (first | done | rfl))
          try simp only [Act.put, List.getElem_toArray, List.getElem_cons_zero, List.getElem_cons_succ, List.setIfInBounds_toArray, List.set_cons_zero, List.set_cons_succ]
          refine wpAnyH_ready (rs := [20]) (by kernel_rfl) (by simp) (AllReadyH.cons (o := _) rfl (fun K hK => ?_) AllReadyH.nil)
          rw [if_pos (by kernel_rfl)]
          have dS : (wD.setCell ⟨wb, 3, none⟩ (.slice AD k cD)).cell? ⟨gd, 2, none⟩ = some (.int .i64 (k : Int)) := by rw [World.cell?_setCell_far _ ⟨wb, 3, none⟩ ⟨gd, 2, none⟩ _ (by show wb ≠ gd; omega)]; exact dD
          go_simp
          refine hK.out _ _ dS (fun _ => ?_)
          clear hK K
          try simp only [Act.put, List.getElem_toArray, List.getElem_cons_zero, List.getElem_cons_succ, List.setIfInBounds_toArray, List.set_cons_zero, List.set_cons_succ]
          refine wpAnyH_done (by kernel_rfl) ?_ _
          refine NoPanic.normal ?_
          have hF5 : Fu (fun k => xv.ownBlock = some k) w3 wD := Fu.ofGrown hgD' (fun k e => by cases e)
          obtain ⟨hT5, hB5⟩ := H3.out.axTo (w2 := wD) (v' := .slice AD k cD) (l := W.ax.eraseIdx k) hF5 (by rw [show axs (W.ax.eraseIdx k) = ods ((W.ax.map toO).take k) from by rw [← axs_erase, Hdrop.out]; simp [ods], show (W.ax.eraseIdx k).length = k from by rw [List.length_eraseIdx_of_lt (by rw [Hn.out]; omega), Hn.out]; omega]; exact own_mono hownD (by omega)) (fun g e => .inr (hownD.lt g e).1)
          have hbe5 := (hbe3.grown hgD' (fun e => by cases e)).grown (grown_setCell wD ⟨wb, 3, none⟩ (.slice AD k cD)) (fun e => by injection e with e; simp only at e; omega)
          have hbd5 := (hbd3.grown hgD' (fun e => by cases e)).grown (grown_setCell wD ⟨wb, 3, none⟩ (.slice AD k cD)) (fun e => by injection e with e; simp only at e; omega)
          obtain ⟨w5, hw5⟩ : ∃ w5, wD.setCell ⟨wb, 3, none⟩ (.slice AD k cD) = w5 := ⟨_, rfl⟩
          rw [hw5] at hT5 hB5 hbe5 hbd5 ⊢
          have hB6 : Fr B P w w5 := hB3.trans hB5
          have H5 := Lib.hid hT5
          clear hw5 hF5 hT5 hB5 hownA hgA hgA' hgD' hownD hgD hatA hatD kD fD crA drA dD hrow1 hrow2A dS
          have f0 := H5.out.cs.1
          have g0 := hbe5.cell (j := 0) (u := .int .i64 x.a) rfl
          have g1 := hbe5.cell (j := 1) (u := .int .i64 x.k) rfl
          have g2 := hbe5.cell (j := 2) (u := .int .i64 x.id) rfl
          have hHr : ∀ p, Calls Try.prog 26 #[.pointer (some ⟨cg + 1, 0, none⟩), .int .i64 x.a, .int .i64 x.k, .int .i64 x.id] (w5.drewN p) fun r w' => (∃ e, r = .returned e) ∧ CdA w5 w' cg _ (hearS W.c x.a x.k x.id) := fun p => by
            refine (hear_ (w5.drewN p) cg _ W.c (H5.out.co.drewN p) x.a x.k x.id).mono ?_
            rintro r w' ⟨e1, e2⟩
            exact ⟨⟨_, e1⟩, e2.undrew⟩
          have hwc5 := H5.out.wbC
          clear hbe5 hbd5
          go_wp2_with fail
          go_region_held3 (fun w' => w'.cell? ⟨wb, 0, none⟩ = some (.pointer (some ⟨cg + 1, 0, none⟩)) ∧ w'.cell? ⟨ge, 0, none⟩ = some (.int .i64 x.a) ∧ w'.cell? ⟨ge, 1, none⟩ = some (.int .i64 x.k) ∧ w'.cell? ⟨ge, 2, none⟩ = some (.int .i64 x.id))
            (first | go_keep | exact ⟨f0, g0, g1, g2⟩ | exact ⟨fu_cell hA7.2 f0 (by simp only; omega), fu_cell hA7.2 g0 (by simp only; omega), fu_cell hA7.2 g1 (by simp only; omega), fu_cell hA7.2 g2 (by simp only; omega)⟩)
            (first | (go_at_call 26; refine (hHr _).mono ?_; rintro r w7 ⟨⟨v7, rfl⟩, hA7⟩))
          obtain ⟨h7, hb7⟩ := H5.out.coTo hA7
          go_end0
          rw [hWE.out]
          exact ⟨_, _, _, rfl, h7, hB6.trans hb7⟩
        · rw [if_pos (by kernel_rfl)]
          go_simp
          refine hK.out _ _ dr (fun _ => ?_)
          clear hK K
          try simp only [Act.put, List.getElem_toArray, List.getElem_cons_zero, List.getElem_cons_succ, List.setIfInBounds_toArray, List.set_cons_zero, List.set_cons_succ]
          refine wpAnyH_take (i := 16) (oi := _) (v := ?_) rfl (by kernel_rfl) (by kernel_rfl) (by kernel_rfl) (fun _ _ _ h => h) (Or.inl ⟨by kernel_rfl, ?_⟩) dr ?_
          rotate_left
          · (rintro w s0; go_simp; (first | done | rfl))
          try simp only [Act.put, List.getElem_toArray, List.getElem_cons_zero, List.getElem_cons_succ, List.setIfInBounds_toArray, List.set_cons_zero, List.set_cons_succ]
          refine wpAnyH_ready (rs := [8]) (by kernel_rfl) (by simp) (AllReadyH.cons (o := _) rfl (fun K hK => ?_) AllReadyH.nil)
          rw [if_pos (by kernel_rfl)]
          refine wp_app _ (.const (.slice none 0 0)) (.tmp 151) _ rfl w3.heap.size 91 i0 _ 3 24 Try.underlying70 hi0' hz0 hz1 Hz.out rfl (by omega) (.slice none 0 0) 0 [] rfl (own_nil _ _ _ _) (some ⟨b, o, none⟩) k (k + 1) (ods ((W.ax.map toO).take k)) rfl (fun e => by cases e) (show Rd w3.drew _ 3 k _ from hrow1) (ods_one _) (by unfold maxLen; omega) (by omega) (Nat.le_refl _) ?_
          intro vA wA hownA hgA hatA
          obtain ⟨AA, cA, rfl, hcA, hmA, haA⟩ := own_form hownA
          simp only [Nat.zero_add, List.nil_append] at hownA hcA haA ⊢
          have hgA' : w3.grownBy wA none := undrewG hgA
          have hsA : w3.heap.size ≤ wA.heap.size := hgA'.size
          have crA : wA.cell? ⟨wb, 3, none⟩ = some (.slice (some ⟨b, o, none⟩) (k + 1) (k + 1)) := hgA'.cell cr (fun e => by cases e)
          have drA : wA.cell? ⟨gd, 2, none⟩ = some (.int .i64 (k : Int)) := hgA'.cell dr (fun e => by cases e)
          have hrow2A := hsA
          refine hK.out _ _ drA (fun _ => ?_)
          clear hK K
          try simp only [Act.put, List.getElem_toArray, List.getElem_cons_zero, List.getElem_cons_succ, List.setIfInBounds_toArray, List.set_cons_zero, List.set_cons_succ]
          refine wpAnyH_ready (rs := [17]) (by kernel_rfl) (by simp) (AllReadyH.cons (o := _) rfl (fun K hK => ?_) AllReadyH.nil)
          rw [if_pos (by kernel_rfl)]
          refine wp_app _ (.tmp 152) (.tmp 160) _ rfl w3.heap.size 91 i0 _ 3 24 Try.underlying70 hi0' hz0 hz1 Hz.out rfl (by omega) (.slice AA k cA) k (ods ((W.ax.map toO).take k)) rfl hownA (some ⟨b, o, none⟩) 0 0 [] rfl (fun e => by cases e) Rd.nil (by simp) (by unfold maxLen; omega) (by omega) hsA ?_
          intro vD wD hownD hgD hatD
          simp only [Nat.add_zero, List.append_nil] at hownD ⊢
          obtain ⟨AD, cD, rfl, hcD, hmD, haD⟩ := own_form hownD
          have hgD' : w3.grownBy wD none := grown_step hgA' hgD (fun j e => .inl (hownA.lt j e).1)
          have kD : wD.cell? ⟨wb, 3, none⟩ = some (.slice (some ⟨b, o, none⟩) (k + 1) (k + 1)) := hgD'.cell cr (fun e => by cases e)
          have dD : wD.cell? ⟨gd, 2, none⟩ = some (.int .i64 (k : Int)) := hgD'.cell dr (fun e => by cases e)
          have fD := (H3.out.blk.grown hgD' (fun e => by cases e)).free 3
          refine hK.out _ _ dD (fun _ => ?_)
          clear hK K
          try simp only [Act.put, List.getElem_toArray, List.getElem_cons_zero, List.getElem_cons_succ, List.setIfInBounds_toArray, List.set_cons_zero, List.set_cons_succ]
          refine wpAnyH_take (i := 18) (oi := _) (v := ?_) rfl (by kernel_rfl) (by kernel_rfl) (by kernel_rfl) (fun _ _ _ h => h) (Or.inl ⟨by kernel_rfl, ?_⟩) dD ?_
          rotate_left
          · (rintro w s0; go_simp; (first | done | rfl))
          try simp only [Act.put, List.getElem_toArray, List.getElem_cons_zero, List.getElem_cons_succ, List.setIfInBounds_toArray, List.set_cons_zero, List.set_cons_succ]
          refine wpAnyH_take (i := 19) (oi := _) (v := ?_) rfl (by kernel_rfl) (by kernel_rfl) (by kernel_rfl) (fun _ _ _ h => h) (Or.inl ⟨by kernel_rfl, ?_⟩) dD ?_
          rotate_left
          · (rintro w s0; go_simp; (first | done | rfl))
          try simp only [Act.put, List.getElem_toArray, List.getElem_cons_zero, List.getElem_cons_succ, List.setIfInBounds_toArray, List.set_cons_zero, List.set_cons_succ]
          refine wpAnyH_ready (rs := [20]) (by kernel_rfl) (by simp) (AllReadyH.cons (o := _) rfl (fun K hK => ?_) AllReadyH.nil)
          rw [if_pos (by kernel_rfl)]
          have dS : (wD.setCell ⟨wb, 3, none⟩ (.slice AD k cD)).cell? ⟨gd, 2, none⟩ = some (.int .i64 (k : Int)) := by rw [World.cell?_setCell_far _ ⟨wb, 3, none⟩ ⟨gd, 2, none⟩ _ (by show wb ≠ gd; omega)]; exact dD
          go_simp
          refine hK.out _ _ dS (fun _ => ?_)
          clear hK K
          try simp only [Act.put, List.getElem_toArray, List.getElem_cons_zero, List.getElem_cons_succ, List.setIfInBounds_toArray, List.set_cons_zero, List.set_cons_succ]
          refine wpAnyH_done (by kernel_rfl) ?_ _
          refine NoPanic.normal ?_
          have hF5 : Fu (fun k => xv.ownBlock = some k) w3 wD := Fu.ofGrown hgD' (fun k e => by cases e)
          obtain ⟨hT5, hB5⟩ := H3.out.axTo (w2 := wD) (v' := .slice AD k cD) (l := W.ax.eraseIdx k) hF5 (by rw [show axs (W.ax.eraseIdx k) = ods ((W.ax.map toO).take k) from by rw [← axs_erase, Hdrop.out]; simp [ods], show (W.ax.eraseIdx k).length = k from by rw [List.length_eraseIdx_of_lt (by rw [Hn.out]; omega), Hn.out]; omega]; exact own_mono hownD (by omega)) (fun g e => .inr (hownD.lt g e).1)
          have hbe5 := (hbe3.grown hgD' (fun e => by cases e)).grown (grown_setCell wD ⟨wb, 3, none⟩ (.slice AD k cD)) (fun e => by injection e with e; simp only at e; omega)
          have hbd5 := (hbd3.grown hgD' (fun e => by cases e)).grown (grown_setCell wD ⟨wb, 3, none⟩ (.slice AD k cD)) (fun e => by injection e with e; simp only at e; omega)
          obtain ⟨w5, hw5⟩ : ∃ w5, wD.setCell ⟨wb, 3, none⟩ (.slice AD k cD) = w5 := ⟨_, rfl⟩
          rw [hw5] at hT5 hB5 hbe5 hbd5 ⊢
          have hB6 : Fr B P w w5 := hB3.trans hB5
          have H5 := Lib.hid hT5
          clear hw5 hF5 hT5 hB5 hownA hgA hgA' hgD' hownD hgD hatA hatD kD fD crA drA dD hrow1 hrow2A dS
          have f0 := H5.out.cs.1
          have g0 := hbe5.cell (j := 0) (u := .int .i64 x.a) rfl
          have g1 := hbe5.cell (j := 1) (u := .int .i64 x.k) rfl
          have g2 := hbe5.cell (j := 2) (u := .int .i64 x.id) rfl
          have hHr : ∀ p, Calls Try.prog 26 #[.pointer (some ⟨cg + 1, 0, none⟩), .int .i64 x.a, .int .i64 x.k, .int .i64 x.id] (w5.drewN p) fun r w' => (∃ e, r = .returned e) ∧ CdA w5 w' cg _ (hearS W.c x.a x.k x.id) := fun p => by
            refine (hear_ (w5.drewN p) cg _ W.c (H5.out.co.drewN p) x.a x.k x.id).mono ?_
            rintro r w' ⟨e1, e2⟩
            exact ⟨⟨_, e1⟩, e2.undrew⟩
          have hwc5 := H5.out.wbC
          clear hbe5 hbd5
          go_wp2_with fail
          go_region_held3 (fun w' => w'.cell? ⟨wb, 0, none⟩ = some (.pointer (some ⟨cg + 1, 0, none⟩)) ∧ w'.cell? ⟨ge, 0, none⟩ = some (.int .i64 x.a) ∧ w'.cell? ⟨ge, 1, none⟩ = some (.int .i64 x.k) ∧ w'.cell? ⟨ge, 2, none⟩ = some (.int .i64 x.id))
            (first | go_keep | exact ⟨f0, g0, g1, g2⟩ | exact ⟨fu_cell hA7.2 f0 (by simp only; omega), fu_cell hA7.2 g0 (by simp only; omega), fu_cell hA7.2 g1 (by simp only; omega), fu_cell hA7.2 g2 (by simp only; omega)⟩)
            (first | (go_at_call 26; refine (hHr _).mono ?_; rintro r w7 ⟨⟨v7, rfl⟩, hA7⟩))
          obtain ⟨h7, hb7⟩ := H5.out.coTo hA7
          go_end0
          rw [hWE.out]
          exact ⟨_, _, _, rfl, h7, hB6.trans hb7⟩
      · rw [if_pos (by kernel_rfl)]
        go_simp
        refine hK.out _ _ dr (fun _ => ?_)
        clear hK K
        try simp only [Act.put, List.getElem_toArray, List.getElem_cons_zero, List.getElem_cons_succ, List.setIfInBounds_toArray, List.set_cons_zero, List.set_cons_succ]
        refine wpAnyH_take (i := 16) (oi := _) (v := ?_) rfl (by kernel_rfl) (by kernel_rfl) (by kernel_rfl) (fun _ _ _ h => h) (Or.inl ⟨by kernel_rfl, ?_⟩) dr ?_
        rotate_left
        · (rintro w s0; go_simp; (first | done | rfl))
        try simp only [Act.put, List.getElem_toArray, List.getElem_cons_zero, List.getElem_cons_succ, List.setIfInBounds_toArray, List.set_cons_zero, List.set_cons_succ]
        refine wpAnyH_ready (rs := [4]) (by kernel_rfl) (by simp) (AllReadyH.cons (o := _) rfl (fun K hK => ?_) AllReadyH.nil)
        rw [if_pos (by kernel_rfl)]
        go_simp
        refine hK.out _ _ dr (fun _ => ?_)
        clear hK K
        try simp only [Act.put, List.getElem_toArray, List.getElem_cons_zero, List.getElem_cons_succ, List.setIfInBounds_toArray, List.set_cons_zero, List.set_cons_succ]
        refine wpAnyH_take (i := 7) (oi := _) (v := ?_) rfl (by kernel_rfl) (by kernel_rfl) (by kernel_rfl) (fun _ _ _ h => h) (Or.inl ⟨by kernel_rfl, ?_⟩) dr ?_
        rotate_left
        · (rintro w s0; go_simp; (first | done | rfl))
        try simp only [Act.put, List.getElem_toArray, List.getElem_cons_zero, List.getElem_cons_succ, List.setIfInBounds_toArray, List.set_cons_zero, List.set_cons_succ]
        refine wpAnyH_ready (rs := [8]) (by kernel_rfl) (by simp) (AllReadyH.cons (o := _) rfl (fun K hK => ?_) AllReadyH.nil)
        rw [if_pos (by kernel_rfl)]
        refine wp_app _ (.const (.slice none 0 0)) (.tmp 151) _ rfl w3.heap.size 91 i0 _ 3 24 Try.underlying70 hi0' hz0 hz1 Hz.out rfl (by omega) (.slice none 0 0) 0 [] rfl (own_nil _ _ _ _) (some ⟨b, o, none⟩) k (k + 1) (ods ((W.ax.map toO).take k)) rfl (fun e => by cases e) (show Rd w3.drew _ 3 k _ from hrow1) (ods_one _) (by unfold maxLen; omega) (by omega) (Nat.le_refl _) ?_
        intro vA wA hownA hgA hatA
        obtain ⟨AA, cA, rfl, hcA, hmA, haA⟩ := own_form hownA
        simp only [Nat.zero_add, List.nil_append] at hownA hcA haA ⊢
        have hgA' : w3.grownBy wA none := undrewG hgA
        have hsA : w3.heap.size ≤ wA.heap.size := hgA'.size
        have crA : wA.cell? ⟨wb, 3, none⟩ = some (.slice (some ⟨b, o, none⟩) (k + 1) (k + 1)) := hgA'.cell cr (fun e => by cases e)
        have drA : wA.cell? ⟨gd, 2, none⟩ = some (.int .i64 (k : Int)) := hgA'.cell dr (fun e => by cases e)
        have hrow2A := hsA
        refine hK.out _ _ drA (fun _ => ?_)
        clear hK K
        try simp only [Act.put, List.getElem_toArray, List.getElem_cons_zero, List.getElem_cons_succ, List.setIfInBounds_toArray, List.set_cons_zero, List.set_cons_succ]
        refine wpAnyH_ready (rs := [17]) (by kernel_rfl) (by simp) (AllReadyH.cons (o := _) rfl (fun K hK => ?_) AllReadyH.nil)
        rw [if_pos (by kernel_rfl)]
        refine wp_app _ (.tmp 152) (.tmp 160) _ rfl w3.heap.size 91 i0 _ 3 24 Try.underlying70 hi0' hz0 hz1 Hz.out rfl (by omega) (.slice AA k cA) k (ods ((W.ax.map toO).take k)) rfl hownA (some ⟨b, o, none⟩) 0 0 [] rfl (fun e => by cases e) Rd.nil (by simp) (by unfold maxLen; omega) (by omega) hsA ?_
        intro vD wD hownD hgD hatD
        simp only [Nat.add_zero, List.append_nil] at hownD ⊢
        obtain ⟨AD, cD, rfl, hcD, hmD, haD⟩ := own_form hownD
        have hgD' : w3.grownBy wD none := grown_step hgA' hgD (fun j e => .inl (hownA.lt j e).1)
        have kD : wD.cell? ⟨wb, 3, none⟩ = some (.slice (some ⟨b, o, none⟩) (k + 1) (k + 1)) := hgD'.cell cr (fun e => by cases e)
        have dD : wD.cell? ⟨gd, 2, none⟩ = some (.int .i64 (k : Int)) := hgD'.cell dr (fun e => by cases e)
        have fD := (H3.out.blk.grown hgD' (fun e => by cases e)).free 3
        refine hK.out _ _ dD (fun _ => ?_)
        clear hK K
        try simp only [Act.put, List.getElem_toArray, List.getElem_cons_zero, List.getElem_cons_succ, List.setIfInBounds_toArray, List.set_cons_zero, List.set_cons_succ]
        refine wpAnyH_take (i := 18) (oi := _) (v := ?_) rfl (by kernel_rfl) (by kernel_rfl) (by kernel_rfl) (fun _ _ _ h => h) (Or.inl ⟨by kernel_rfl, ?_⟩) dD ?_
        rotate_left
        · (rintro w s0; go_simp; (first | done | rfl))
        try simp only [Act.put, List.getElem_toArray, List.getElem_cons_zero, List.getElem_cons_succ, List.setIfInBounds_toArray, List.set_cons_zero, List.set_cons_succ]
        refine wpAnyH_take (i := 19) (oi := _) (v := ?_) rfl (by kernel_rfl) (by kernel_rfl) (by kernel_rfl) (fun _ _ _ h => h) (Or.inl ⟨by kernel_rfl, ?_⟩) dD ?_
        rotate_left
        · (rintro w s0; go_simp; (first | done | rfl))
        try simp only [Act.put, List.getElem_toArray, List.getElem_cons_zero, List.getElem_cons_succ, List.setIfInBounds_toArray, List.set_cons_zero, List.set_cons_succ]
        refine wpAnyH_ready (rs := [20]) (by kernel_rfl) (by simp) (AllReadyH.cons (o := _) rfl (fun K hK => ?_) AllReadyH.nil)
        rw [if_pos (by kernel_rfl)]
        have dS : (wD.setCell ⟨wb, 3, none⟩ (.slice AD k cD)).cell? ⟨gd, 2, none⟩ = some (.int .i64 (k : Int)) := by rw [World.cell?_setCell_far _ ⟨wb, 3, none⟩ ⟨gd, 2, none⟩ _ (by show wb ≠ gd; omega)]; exact dD
        go_simp
        refine hK.out _ _ dS (fun _ => ?_)
        clear hK K
        try simp only [Act.put, List.getElem_toArray, List.getElem_cons_zero, List.getElem_cons_succ, List.setIfInBounds_toArray, List.set_cons_zero, List.set_cons_succ]
        refine wpAnyH_done (by kernel_rfl) ?_ _
        refine NoPanic.normal ?_
        have hF5 : Fu (fun k => xv.ownBlock = some k) w3 wD := Fu.ofGrown hgD' (fun k e => by cases e)
        obtain ⟨hT5, hB5⟩ := H3.out.axTo (w2 := wD) (v' := .slice AD k cD) (l := W.ax.eraseIdx k) hF5 (by rw [show axs (W.ax.eraseIdx k) = ods ((W.ax.map toO).take k) from by rw [← axs_erase, Hdrop.out]; simp [ods], show (W.ax.eraseIdx k).length = k from by rw [List.length_eraseIdx_of_lt (by rw [Hn.out]; omega), Hn.out]; omega]; exact own_mono hownD (by omega)) (fun g e => .inr (hownD.lt g e).1)
        have hbe5 := (hbe3.grown hgD' (fun e => by cases e)).grown (grown_setCell wD ⟨wb, 3, none⟩ (.slice AD k cD)) (fun e => by injection e with e; simp only at e; omega)
        have hbd5 := (hbd3.grown hgD' (fun e => by cases e)).grown (grown_setCell wD ⟨wb, 3, none⟩ (.slice AD k cD)) (fun e => by injection e with e; simp only at e; omega)
        obtain ⟨w5, hw5⟩ : ∃ w5, wD.setCell ⟨wb, 3, none⟩ (.slice AD k cD) = w5 := ⟨_, rfl⟩
        rw [hw5] at hT5 hB5 hbe5 hbd5 ⊢
        have hB6 : Fr B P w w5 := hB3.trans hB5
        have H5 := Lib.hid hT5
        clear hw5 hF5 hT5 hB5 hownA hgA hgA' hgD' hownD hgD hatA hatD kD fD crA drA dD hrow1 hrow2A dS
        have f0 := H5.out.cs.1
        have g0 := hbe5.cell (j := 0) (u := .int .i64 x.a) rfl
        have g1 := hbe5.cell (j := 1) (u := .int .i64 x.k) rfl
        have g2 := hbe5.cell (j := 2) (u := .int .i64 x.id) rfl
        have hHr : ∀ p, Calls Try.prog 26 #[.pointer (some ⟨cg + 1, 0, none⟩), .int .i64 x.a, .int .i64 x.k, .int .i64 x.id] (w5.drewN p) fun r w' => (∃ e, r = .returned e) ∧ CdA w5 w' cg _ (hearS W.c x.a x.k x.id) := fun p => by
          refine (hear_ (w5.drewN p) cg _ W.c (H5.out.co.drewN p) x.a x.k x.id).mono ?_
          rintro r w' ⟨e1, e2⟩
          exact ⟨⟨_, e1⟩, e2.undrew⟩
        have hwc5 := H5.out.wbC
        clear hbe5 hbd5
        go_wp2_with fail
        go_region_held3 (fun w' => w'.cell? ⟨wb, 0, none⟩ = some (.pointer (some ⟨cg + 1, 0, none⟩)) ∧ w'.cell? ⟨ge, 0, none⟩ = some (.int .i64 x.a) ∧ w'.cell? ⟨ge, 1, none⟩ = some (.int .i64 x.k) ∧ w'.cell? ⟨ge, 2, none⟩ = some (.int .i64 x.id))
          (first | go_keep | exact ⟨f0, g0, g1, g2⟩ | exact ⟨fu_cell hA7.2 f0 (by simp only; omega), fu_cell hA7.2 g0 (by simp only; omega), fu_cell hA7.2 g1 (by simp only; omega), fu_cell hA7.2 g2 (by simp only; omega)⟩)
          (first | (go_at_call 26; refine (hHr _).mono ?_; rintro r w7 ⟨⟨v7, rfl⟩, hA7⟩))
        obtain ⟨h7, hb7⟩ := H5.out.coTo hA7
        go_end0
        rw [hWE.out]
        exact ⟨_, _, _, rfl, h7, hB6.trans hb7⟩
    · have hrow2 := hrow.drop (k := k + 1) (cap := cI) (by omega) hcI
      rw [ods_drop, if_neg hce] at hrow2
      simp only [Option.map_some, add_plain] at hrow2
      clear hrow
      go_wp2_with fail
      refine wp_region_noPanic ?_
      refine wp_region_held_drew (S := (fun w' => w'.cell? ⟨gd, 2, none⟩ = some (.int .i64 (k : Int)))) (by kernel_rfl) dr (fun _ => ?_)
      refine wpAnyH_take (i := 0) (oi := _) (v := ?_) rfl (by kernel_rfl) (by kernel_rfl) (by kernel_rfl) (fun _ _ _ h => h) (Or.inl ⟨by kernel_rfl, ?_⟩) dr ?_
      rotate_left
      · (rintro w s0; go_simp; (first | done | rfl))
      try simp only [Act.put, List.getElem_toArray, List.getElem_cons_zero, List.getElem_cons_succ, List.setIfInBounds_toArray, List.set_cons_zero, List.set_cons_succ]
      refine wpAnyH_take (i := 1) (oi := _) (v := ?_) rfl (by kernel_rfl) (by kernel_rfl) (by kernel_rfl) (fun _ _ _ h => h) (Or.inl ⟨by kernel_rfl, ?_⟩) dr ?_
      rotate_left
      · (rintro w s0; go_simp; (first | done | rfl))
      try simp only [Act.put, List.getElem_toArray, List.getElem_cons_zero, List.getElem_cons_succ, List.setIfInBounds_toArray, List.set_cons_zero, List.set_cons_succ]
      refine wpAnyH_take (i := 2) (oi := _) (v := ?_) rfl (by kernel_rfl) (by kernel_rfl) (by kernel_rfl) (fun _ _ _ h => h) (Or.inl ⟨by kernel_rfl, ?_⟩) dr ?_
      rotate_left
      · (rintro w s0; go_simp; (first | done | rfl))
      try simp only [Act.put, List.getElem_toArray, List.getElem_cons_zero, List.getElem_cons_succ, List.setIfInBounds_toArray, List.set_cons_zero, List.set_cons_succ]
      refine wpAnyH_take (i := 3) (oi := _) (v := ?_) rfl (by kernel_rfl) (by kernel_rfl) (by kernel_rfl) (fun _ _ _ h => h) (Or.inl ⟨by kernel_rfl, ?_⟩) dr ?_
      rotate_left
      · (rintro w s0; go_simp; (first | done | rfl))
      try simp only [Act.put, List.getElem_toArray, List.getElem_cons_zero, List.getElem_cons_succ, List.setIfInBounds_toArray, List.set_cons_zero, List.set_cons_succ]
      refine wpAnyH_take (i := 5) (oi := _) (v := ?_) rfl (by kernel_rfl) (by kernel_rfl) (by kernel_rfl) (fun _ _ _ h => h) (Or.inl ⟨by kernel_rfl, ?_⟩) dr ?_
      rotate_left
      · (rintro w s0; go_simp; (first | done | rfl))
      try simp only [Act.put, List.getElem_toArray, List.getElem_cons_zero, List.getElem_cons_succ, List.setIfInBounds_toArray, List.set_cons_zero, List.set_cons_succ]
      refine wpAnyH_take (i := 6) (oi := _) (v := ?_) rfl (by kernel_rfl) (by kernel_rfl) (by kernel_rfl) (fun _ _ _ h => h) (Or.inl ⟨by kernel_rfl, ?_⟩) dr ?_
      rotate_left
      · (rintro w s0; go_simp; (first | done | rfl))
      try simp only [Act.put, List.getElem_toArray, List.getElem_cons_zero, List.getElem_cons_succ, List.setIfInBounds_toArray, List.set_cons_zero, List.set_cons_succ]
      refine wpAnyH_take (i := 9) (oi := _) (v := ?_) rfl (by kernel_rfl) (by kernel_rfl) (by kernel_rfl) (fun _ _ _ h => h) (Or.inl ⟨by kernel_rfl, ?_⟩) dr ?_
      rotate_left
      · (rintro w s0; go_simp; (first | done | rfl))
      try simp only [Act.put, List.getElem_toArray, List.getElem_cons_zero, List.getElem_cons_succ, List.setIfInBounds_toArray, List.set_cons_zero, List.set_cons_succ]
      refine wpAnyH_take (i := 10) (oi := _) (v := ?_) rfl (by kernel_rfl) (by kernel_rfl) (by kernel_rfl) (fun _ _ _ h => h) (Or.inl ⟨by kernel_rfl, ?_⟩) dr ?_
      rotate_left
      · (rintro w s0; go_simp; (first | done | rfl))
      try simp only [Act.put, List.getElem_toArray, List.getElem_cons_zero, List.getElem_cons_succ, List.setIfInBounds_toArray, List.set_cons_zero, List.set_cons_succ]
      refine wpAnyH_take (i := 11) (oi := _) (v := ?_) rfl (by kernel_rfl) (by kernel_rfl) (by kernel_rfl) (fun _ _ _ h => h) (Or.inl ⟨by kernel_rfl, ?_⟩) dr ?_
      rotate_left
      · (rintro w s0; go_simp; (first | done | rfl))
      try simp only [Act.put, List.getElem_toArray, List.getElem_cons_zero, List.getElem_cons_succ, List.setIfInBounds_toArray, List.set_cons_zero, List.set_cons_succ]
      refine wpAnyH_take (i := 13) (oi := _) (v := ?_) rfl (by kernel_rfl) (by kernel_rfl) (by kernel_rfl) (fun _ _ _ h => h) (Or.inl ⟨by kernel_rfl, ?_⟩) dr ?_
      rotate_left
      · (rintro w s0; go_simp; (first | done | rfl))
      try simp only [Act.put, List.getElem_toArray, List.getElem_cons_zero, List.getElem_cons_succ, List.setIfInBounds_toArray, List.set_cons_zero, List.set_cons_succ]
      refine wpAnyH_take (i := 14) (oi := _) (v := ?_) rfl (by kernel_rfl) (by kernel_rfl) (by kernel_rfl) (fun _ _ _ h => h) (Or.inl ⟨by kernel_rfl, ?_⟩) dr ?_
      rotate_left
      · (rintro w s0; go_simp; (first | done | rfl))
      try simp only [Act.put, List.getElem_toArray, List.getElem_cons_zero, List.getElem_cons_succ, List.setIfInBounds_toArray, List.set_cons_zero, List.set_cons_succ]
      refine wpAnyH_take (i := 15) (oi := _) (v := ?_) rfl (by kernel_rfl) (by kernel_rfl) (by kernel_rfl) (fun _ _ _ h => h) (Or.inl ⟨by kernel_rfl, ?_⟩) dr ?_
      rotate_left
      · (rintro w s0; go_simp; (first | done | rfl))
      try simp only [Act.put, List.getElem_toArray, List.getElem_cons_zero, List.getElem_cons_succ, List.setIfInBounds_toArray, List.set_cons_zero, List.set_cons_succ]
      refine wpAnyH_ready (rs := [4, 12]) (by kernel_rfl) (by simp) (AllReadyH.cons (o := _) rfl (fun K hK => ?_) (AllReadyH.cons (o := _) rfl (fun K hK => ?_) AllReadyH.nil))
      · rw [if_pos (by kernel_rfl)]
        go_simp
        refine hK.out _ _ dr (fun _ => ?_)
        clear hK K
        try simp only [Act.put, List.getElem_toArray, List.getElem_cons_zero, List.getElem_cons_succ, List.setIfInBounds_toArray, List.set_cons_zero, List.set_cons_succ]
        refine wpAnyH_take (i := 7) (oi := _) (v := ?_) rfl (by kernel_rfl) (by kernel_rfl) (by kernel_rfl) (fun _ _ _ h => h) (Or.inl ⟨by kernel_rfl, ?_⟩) dr ?_
        rotate_left
        · (rintro w s0; go_simp; (first | done | rfl))
        try simp only [Act.put, List.getElem_toArray, List.getElem_cons_zero, List.getElem_cons_succ, List.setIfInBounds_toArray, List.set_cons_zero, List.set_cons_succ]
        refine wpAnyH_ready (rs := [8, 12]) (by kernel_rfl) (by simp) (AllReadyH.cons (o := _) rfl (fun K hK => ?_) (AllReadyH.cons (o := _) rfl (fun K hK => ?_) AllReadyH.nil))
        · rw [if_pos (by kernel_rfl)]
          refine wp_app _ (.const (.slice none 0 0)) (.tmp 151) _ rfl w3.heap.size 91 i0 _ 3 24 Try.underlying70 hi0' hz0 hz1 Hz.out rfl (by omega) (.slice none 0 0) 0 [] rfl (own_nil _ _ _ _) (some ⟨b, o, none⟩) k cI (ods ((W.ax.map toO).take k)) rfl (fun e => by cases e) (show Rd w3.drew _ 3 k _ from hrow1) (ods_one _) (by unfold maxLen; omega) (by omega) (Nat.le_refl _) ?_
          intro vA wA hownA hgA hatA
          obtain ⟨AA, cA, rfl, hcA, hmA, haA⟩ := own_form hownA
          simp only [Nat.zero_add, List.nil_append] at hownA hcA haA ⊢
          have hgA' : w3.grownBy wA none := undrewG hgA
          have hsA : w3.heap.size ≤ wA.heap.size := hgA'.size
          have crA : wA.cell? ⟨wb, 3, none⟩ = some (.slice (some ⟨b, o, none⟩) n cI) := hgA'.cell cr (fun e => by cases e)
          have drA : wA.cell? ⟨gd, 2, none⟩ = some (.int .i64 (k : Int)) := hgA'.cell dr (fun e => by cases e)
          have hrow2A := hrow2.grown hgA' (fun a ha e => by cases e)
          refine hK.out _ _ drA (fun _ => ?_)
          clear hK K
          try simp only [Act.put, List.getElem_toArray, List.getElem_cons_zero, List.getElem_cons_succ, List.setIfInBounds_toArray, List.set_cons_zero, List.set_cons_succ]
          refine wpAnyH_ready (rs := [12]) (by kernel_rfl) (by simp) (AllReadyH.cons (o := _) rfl (fun K hK => ?_) AllReadyH.nil)
          rw [if_pos (by kernel_rfl)]
          go_simp
          refine hK.out _ _ drA (fun _ => ?_)
          clear hK K
          try simp only [Act.put, List.getElem_toArray, List.getElem_cons_zero, List.getElem_cons_succ, List.setIfInBounds_toArray, List.set_cons_zero, List.set_cons_succ]
          refine wpAnyH_take (i := 16) (oi := _) (v := ?_) rfl (by kernel_rfl) (by kernel_rfl) (by kernel_rfl) (fun _ _ _ h => h) (Or.inl ⟨by kernel_rfl, ?_⟩) drA ?_
          rotate_left
          · (rintro w s0; go_simp; (first | done | rfl))
          try simp only [Act.put, List.getElem_toArray, List.getElem_cons_zero, List.getElem_cons_succ, List.setIfInBounds_toArray, List.set_cons_zero, List.set_cons_succ]
          refine wpAnyH_ready (rs := [17]) (by kernel_rfl) (by simp) (AllReadyH.cons (o := _) rfl (fun K hK => ?_) AllReadyH.nil)
          rw [if_pos (by kernel_rfl)]
          refine wp_app _ (.tmp 152) (.tmp 160) _ rfl w3.heap.size 91 i0 _ 3 24 Try.underlying70 hi0' hz0 hz1 Hz.out rfl (by omega) (.slice AA k cA) k (ods ((W.ax.map toO).take k)) rfl hownA (some ⟨b, o + (k + 1) * 3, none⟩) (n - (k + 1)) (cI - (k + 1)) (ods ((W.ax.map toO).drop (k + 1))) rfl (fun e => by cases e) hrow2A (ods_one _) (by unfold maxLen; omega) (by omega) hsA ?_
          intro vD wD hownD hgD hatD
          skip
          obtain ⟨AD, cD, rfl, hcD, hmD, haD⟩ := own_form hownD
          have hgD' : w3.grownBy wD none := grown_step hgA' hgD (fun j e => .inl (hownA.lt j e).1)
          have kD : wD.cell? ⟨wb, 3, none⟩ = some (.slice (some ⟨b, o, none⟩) n cI) := hgD'.cell cr (fun e => by cases e)
          have dD : wD.cell? ⟨gd, 2, none⟩ = some (.int .i64 (k : Int)) := hgD'.cell dr (fun e => by cases e)
          have fD := (H3.out.blk.grown hgD' (fun e => by cases e)).free 3
          refine hK.out _ _ dD (fun _ => ?_)
          clear hK K
          try simp only [Act.put, List.getElem_toArray, List.getElem_cons_zero, List.getElem_cons_succ, List.setIfInBounds_toArray, List.set_cons_zero, List.set_cons_succ]
          refine wpAnyH_take (i := 18) (oi := _) (v := ?_) rfl (by kernel_rfl) (by kernel_rfl) (by kernel_rfl) (fun _ _ _ h => h) (Or.inl ⟨by kernel_rfl, ?_⟩) dD ?_
          rotate_left
          · (rintro w s0; go_simp; (first | done | rfl))
          try simp only [Act.put, List.getElem_toArray, List.getElem_cons_zero, List.getElem_cons_succ, List.setIfInBounds_toArray, List.set_cons_zero, List.set_cons_succ]
          refine wpAnyH_take (i := 19) (oi := _) (v := ?_) rfl (by kernel_rfl) (by kernel_rfl) (by kernel_rfl) (fun _ _ _ h => h) (Or.inl ⟨by kernel_rfl, ?_⟩) dD ?_
          rotate_left
          · (rintro w s0; go_simp; (first | done | rfl))
          try simp only [Act.put, List.getElem_toArray, List.getElem_cons_zero, List.getElem_cons_succ, List.setIfInBounds_toArray, List.set_cons_zero, List.set_cons_succ]
          refine wpAnyH_ready (rs := [20]) (by kernel_rfl) (by simp) (AllReadyH.cons (o := _) rfl (fun K hK => ?_) AllReadyH.nil)
          rw [if_pos (by kernel_rfl)]
          have dS : (wD.setCell ⟨wb, 3, none⟩ (.slice AD (k + (n - (k + 1))) cD)).cell? ⟨gd, 2, none⟩ = some (.int .i64 (k : Int)) := by rw [World.cell?_setCell_far _ ⟨wb, 3, none⟩ ⟨gd, 2, none⟩ _ (by show wb ≠ gd; omega)]; exact dD
          go_simp
          refine hK.out _ _ dS (fun _ => ?_)
          clear hK K
          try simp only [Act.put, List.getElem_toArray, List.getElem_cons_zero, List.getElem_cons_succ, List.setIfInBounds_toArray, List.set_cons_zero, List.set_cons_succ]
          refine wpAnyH_done (by kernel_rfl) ?_ _
          refine NoPanic.normal ?_
          have hF5 : Fu (fun k => xv.ownBlock = some k) w3 wD := Fu.ofGrown hgD' (fun k e => by cases e)
          obtain ⟨hT5, hB5⟩ := H3.out.axTo (w2 := wD) (v' := .slice AD (k + (n - (k + 1))) cD) (l := W.ax.eraseIdx k) hF5 (by rw [← axs_erase, show (W.ax.eraseIdx k).length = k + (n - (k + 1)) from by rw [List.length_eraseIdx_of_lt (by rw [Hn.out]; omega), Hn.out]; omega]; exact own_mono hownD (by omega)) (fun g e => .inr (hownD.lt g e).1)
          have hbe5 := (hbe3.grown hgD' (fun e => by cases e)).grown (grown_setCell wD ⟨wb, 3, none⟩ (.slice AD (k + (n - (k + 1))) cD)) (fun e => by injection e with e; simp only at e; omega)
          have hbd5 := (hbd3.grown hgD' (fun e => by cases e)).grown (grown_setCell wD ⟨wb, 3, none⟩ (.slice AD (k + (n - (k + 1))) cD)) (fun e => by injection e with e; simp only at e; omega)
          obtain ⟨w5, hw5⟩ : ∃ w5, wD.setCell ⟨wb, 3, none⟩ (.slice AD (k + (n - (k + 1))) cD) = w5 := ⟨_, rfl⟩
          rw [hw5] at hT5 hB5 hbe5 hbd5 ⊢
          have hB6 : Fr B P w w5 := hB3.trans hB5
          have H5 := Lib.hid hT5
          clear hw5 hF5 hT5 hB5 hownA hgA hgA' hgD' hownD hgD hatA hatD kD fD crA drA dD hrow1 hrow2A dS
          have f0 := H5.out.cs.1
          have g0 := hbe5.cell (j := 0) (u := .int .i64 x.a) rfl
          have g1 := hbe5.cell (j := 1) (u := .int .i64 x.k) rfl
          have g2 := hbe5.cell (j := 2) (u := .int .i64 x.id) rfl
          have hHr : ∀ p, Calls Try.prog 26 #[.pointer (some ⟨cg + 1, 0, none⟩), .int .i64 x.a, .int .i64 x.k, .int .i64 x.id] (w5.drewN p) fun r w' => (∃ e, r = .returned e) ∧ CdA w5 w' cg _ (hearS W.c x.a x.k x.id) := fun p => by
            refine (hear_ (w5.drewN p) cg _ W.c (H5.out.co.drewN p) x.a x.k x.id).mono ?_
            rintro r w' ⟨e1, e2⟩
            exact ⟨⟨_, e1⟩, e2.undrew⟩
          have hwc5 := H5.out.wbC
          clear hbe5 hbd5
          go_wp2_with fail
          go_region_held3 (fun w' => w'.cell? ⟨wb, 0, none⟩ = some (.pointer (some ⟨cg + 1, 0, none⟩)) ∧ w'.cell? ⟨ge, 0, none⟩ = some (.int .i64 x.a) ∧ w'.cell? ⟨ge, 1, none⟩ = some (.int .i64 x.k) ∧ w'.cell? ⟨ge, 2, none⟩ = some (.int .i64 x.id))
            (first | go_keep | exact ⟨f0, g0, g1, g2⟩ | exact ⟨fu_cell hA7.2 f0 (by simp only; omega), fu_cell hA7.2 g0 (by simp only; omega), fu_cell hA7.2 g1 (by simp only; omega), fu_cell hA7.2 g2 (by simp only; omega)⟩)
            (first | (go_at_call 26; refine (hHr _).mono ?_; rintro r w7 ⟨⟨v7, rfl⟩, hA7⟩))
          obtain ⟨h7, hb7⟩ := H5.out.coTo hA7
          go_end0
          rw [hWE.out]
          exact ⟨_, _, _, rfl, h7, hB6.trans hb7⟩
        · rw [if_pos (by kernel_rfl)]
          go_simp
          refine hK.out _ _ dr (fun _ => ?_)
          clear hK K
          try simp only [Act.put, List.getElem_toArray, List.getElem_cons_zero, List.getElem_cons_succ, List.setIfInBounds_toArray, List.set_cons_zero, List.set_cons_succ]
          refine wpAnyH_take (i := 16) (oi := _) (v := ?_) rfl (by kernel_rfl) (by kernel_rfl) (by kernel_rfl) (fun _ _ _ h => h) (Or.inl ⟨by kernel_rfl, ?_⟩) dr ?_
          rotate_left
          · (rintro w s0; go_simp; (first | done | rfl))
          try simp only [Act.put, List.getElem_toArray, List.getElem_cons_zero, List.getElem_cons_succ, List.setIfInBounds_toArray, List.set_cons_zero, List.set_cons_succ]
          refine wpAnyH_ready (rs := [8]) (by kernel_rfl) (by simp) (AllReadyH.cons (o := _) rfl (fun K hK => ?_) AllReadyH.nil)
          rw [if_pos (by kernel_rfl)]
          refine wp_app _ (.const (.slice none 0 0)) (.tmp 151) _ rfl w3.heap.size 91 i0 _ 3 24 Try.underlying70 hi0' hz0 hz1 Hz.out rfl (by omega) (.slice none 0 0) 0 [] rfl (own_nil _ _ _ _) (some ⟨b, o, none⟩) k cI (ods ((W.ax.map toO).take k)) rfl (fun e => by cases e) (show Rd w3.drew _ 3 k _ from hrow1) (ods_one _) (by unfold maxLen; omega) (by omega) (Nat.le_refl _) ?_
          intro vA wA hownA hgA hatA
          obtain ⟨AA, cA, rfl, hcA, hmA, haA⟩ := own_form hownA
          simp only [Nat.zero_add, List.nil_append] at hownA hcA haA ⊢
          have hgA' : w3.grownBy wA none := undrewG hgA
          have hsA : w3.heap.size ≤ wA.heap.size := hgA'.size
          have crA : wA.cell? ⟨wb, 3, none⟩ = some (.slice (some ⟨b, o, none⟩) n cI) := hgA'.cell cr (fun e => by cases e)
          have drA : wA.cell? ⟨gd, 2, none⟩ = some (.int .i64 (k : Int)) := hgA'.cell dr (fun e => by cases e)
          have hrow2A := hrow2.grown hgA' (fun a ha e => by cases e)
          refine hK.out _ _ drA (fun _ => ?_)
          clear hK K
          try simp only [Act.put, List.getElem_toArray, List.getElem_cons_zero, List.getElem_cons_succ, List.setIfInBounds_toArray, List.set_cons_zero, List.set_cons_succ]
          refine wpAnyH_ready (rs := [17]) (by kernel_rfl) (by simp) (AllReadyH.cons (o := _) rfl (fun K hK => ?_) AllReadyH.nil)
          rw [if_pos (by kernel_rfl)]
          refine wp_app _ (.tmp 152) (.tmp 160) _ rfl w3.heap.size 91 i0 _ 3 24 Try.underlying70 hi0' hz0 hz1 Hz.out rfl (by omega) (.slice AA k cA) k (ods ((W.ax.map toO).take k)) rfl hownA (some ⟨b, o + (k + 1) * 3, none⟩) (n - (k + 1)) (cI - (k + 1)) (ods ((W.ax.map toO).drop (k + 1))) rfl (fun e => by cases e) hrow2A (ods_one _) (by unfold maxLen; omega) (by omega) hsA ?_
          intro vD wD hownD hgD hatD
          skip
          obtain ⟨AD, cD, rfl, hcD, hmD, haD⟩ := own_form hownD
          have hgD' : w3.grownBy wD none := grown_step hgA' hgD (fun j e => .inl (hownA.lt j e).1)
          have kD : wD.cell? ⟨wb, 3, none⟩ = some (.slice (some ⟨b, o, none⟩) n cI) := hgD'.cell cr (fun e => by cases e)
          have dD : wD.cell? ⟨gd, 2, none⟩ = some (.int .i64 (k : Int)) := hgD'.cell dr (fun e => by cases e)
          have fD := (H3.out.blk.grown hgD' (fun e => by cases e)).free 3
          refine hK.out _ _ dD (fun _ => ?_)
          clear hK K
          try simp only [Act.put, List.getElem_toArray, List.getElem_cons_zero, List.getElem_cons_succ, List.setIfInBounds_toArray, List.set_cons_zero, List.set_cons_succ]
          refine wpAnyH_take (i := 18) (oi := _) (v := ?_) rfl (by kernel_rfl) (by kernel_rfl) (by kernel_rfl) (fun _ _ _ h => h) (Or.inl ⟨by kernel_rfl, ?_⟩) dD ?_
          rotate_left
          · (rintro w s0; go_simp; (first | done | rfl))
          try simp only [Act.put, List.getElem_toArray, List.getElem_cons_zero, List.getElem_cons_succ, List.setIfInBounds_toArray, List.set_cons_zero, List.set_cons_succ]
          refine wpAnyH_take (i := 19) (oi := _) (v := ?_) rfl (by kernel_rfl) (by kernel_rfl) (by kernel_rfl) (fun _ _ _ h => h) (Or.inl ⟨by kernel_rfl, ?_⟩) dD ?_
          rotate_left
          · (rintro w s0; go_simp; (first | done | rfl))
          try simp only [Act.put, List.getElem_toArray, List.getElem_cons_zero, List.getElem_cons_succ, List.setIfInBounds_toArray, List.set_cons_zero, List.set_cons_succ]
          refine wpAnyH_ready (rs := [20]) (by kernel_rfl) (by simp) (AllReadyH.cons (o := _) rfl (fun K hK => ?_) AllReadyH.nil)
          rw [if_pos (by kernel_rfl)]
          have dS : (wD.setCell ⟨wb, 3, none⟩ (.slice AD (k + (n - (k + 1))) cD)).cell? ⟨gd, 2, none⟩ = some (.int .i64 (k : Int)) := by rw [World.cell?_setCell_far _ ⟨wb, 3, none⟩ ⟨gd, 2, none⟩ _ (by show wb ≠ gd; omega)]; exact dD
          go_simp
          refine hK.out _ _ dS (fun _ => ?_)
          clear hK K
          try simp only [Act.put, List.getElem_toArray, List.getElem_cons_zero, List.getElem_cons_succ, List.setIfInBounds_toArray, List.set_cons_zero, List.set_cons_succ]
          refine wpAnyH_done (by kernel_rfl) ?_ _
          refine NoPanic.normal ?_
          have hF5 : Fu (fun k => xv.ownBlock = some k) w3 wD := Fu.ofGrown hgD' (fun k e => by cases e)
          obtain ⟨hT5, hB5⟩ := H3.out.axTo (w2 := wD) (v' := .slice AD (k + (n - (k + 1))) cD) (l := W.ax.eraseIdx k) hF5 (by rw [← axs_erase, show (W.ax.eraseIdx k).length = k + (n - (k + 1)) from by rw [List.length_eraseIdx_of_lt (by rw [Hn.out]; omega), Hn.out]; omega]; exact own_mono hownD (by omega)) (fun g e => .inr (hownD.lt g e).1)
          have hbe5 := (hbe3.grown hgD' (fun e => by cases e)).grown (grown_setCell wD ⟨wb, 3, none⟩ (.slice AD (k + (n - (k + 1))) cD)) (fun e => by injection e with e; simp only at e; omega)
          have hbd5 := (hbd3.grown hgD' (fun e => by cases e)).grown (grown_setCell wD ⟨wb, 3, none⟩ (.slice AD (k + (n - (k + 1))) cD)) (fun e => by injection e with e; simp only at e; omega)
          obtain ⟨w5, hw5⟩ : ∃ w5, wD.setCell ⟨wb, 3, none⟩ (.slice AD (k + (n - (k + 1))) cD) = w5 := ⟨_, rfl⟩
          rw [hw5] at hT5 hB5 hbe5 hbd5 ⊢
          have hB6 : Fr B P w w5 := hB3.trans hB5
          have H5 := Lib.hid hT5
          clear hw5 hF5 hT5 hB5 hownA hgA hgA' hgD' hownD hgD hatA hatD kD fD crA drA dD hrow1 hrow2A dS
          have f0 := H5.out.cs.1
          have g0 := hbe5.cell (j := 0) (u := .int .i64 x.a) rfl
          have g1 := hbe5.cell (j := 1) (u := .int .i64 x.k) rfl
          have g2 := hbe5.cell (j := 2) (u := .int .i64 x.id) rfl
          have hHr : ∀ p, Calls Try.prog 26 #[.pointer (some ⟨cg + 1, 0, none⟩), .int .i64 x.a, .int .i64 x.k, .int .i64 x.id] (w5.drewN p) fun r w' => (∃ e, r = .returned e) ∧ CdA w5 w' cg _ (hearS W.c x.a x.k x.id) := fun p => by
            refine (hear_ (w5.drewN p) cg _ W.c (H5.out.co.drewN p) x.a x.k x.id).mono ?_
            rintro r w' ⟨e1, e2⟩
            exact ⟨⟨_, e1⟩, e2.undrew⟩
          have hwc5 := H5.out.wbC
          clear hbe5 hbd5
          go_wp2_with fail
          go_region_held3 (fun w' => w'.cell? ⟨wb, 0, none⟩ = some (.pointer (some ⟨cg + 1, 0, none⟩)) ∧ w'.cell? ⟨ge, 0, none⟩ = some (.int .i64 x.a) ∧ w'.cell? ⟨ge, 1, none⟩ = some (.int .i64 x.k) ∧ w'.cell? ⟨ge, 2, none⟩ = some (.int .i64 x.id))
            (first | go_keep | exact ⟨f0, g0, g1, g2⟩ | exact ⟨fu_cell hA7.2 f0 (by simp only; omega), fu_cell hA7.2 g0 (by simp only; omega), fu_cell hA7.2 g1 (by simp only; omega), fu_cell hA7.2 g2 (by simp only; omega)⟩)
            (first | (go_at_call 26; refine (hHr _).mono ?_; rintro r w7 ⟨⟨v7, rfl⟩, hA7⟩))
          obtain ⟨h7, hb7⟩ := H5.out.coTo hA7
          go_end0
          rw [hWE.out]
          exact ⟨_, _, _, rfl, h7, hB6.trans hb7⟩
      · rw [if_pos (by kernel_rfl)]
        go_simp
        refine hK.out _ _ dr (fun _ => ?_)
        clear hK K
        try simp only [Act.put, List.getElem_toArray, List.getElem_cons_zero, List.getElem_cons_succ, List.setIfInBounds_toArray, List.set_cons_zero, List.set_cons_succ]
        refine wpAnyH_take (i := 16) (oi := _) (v := ?_) rfl (by kernel_rfl) (by kernel_rfl) (by kernel_rfl) (fun _ _ _ h => h) (Or.inl ⟨by kernel_rfl, ?_⟩) dr ?_
        rotate_left
        · (rintro w s0; go_simp; (first | done | rfl))
        try simp only [Act.put, List.getElem_toArray, List.getElem_cons_zero, List.getElem_cons_succ, List.setIfInBounds_toArray, List.set_cons_zero, List.set_cons_succ]
        refine wpAnyH_ready (rs := [4]) (by kernel_rfl) (by simp) (AllReadyH.cons (o := _) rfl (fun K hK => ?_) AllReadyH.nil)
        rw [if_pos (by kernel_rfl)]
        go_simp
        refine hK.out _ _ dr (fun _ => ?_)
        clear hK K
        try simp only [Act.put, List.getElem_toArray, List.getElem_cons_zero, List.getElem_cons_succ, List.setIfInBounds_toArray, List.set_cons_zero, List.set_cons_succ]
        refine wpAnyH_take (i := 7) (oi := _) (v := ?_) rfl (by kernel_rfl) (by kernel_rfl) (by kernel_rfl) (fun _ _ _ h => h) (Or.inl ⟨by kernel_rfl, ?_⟩) dr ?_
        rotate_left
        · (rintro w s0; go_simp; (first | done | rfl))
        try simp only [Act.put, List.getElem_toArray, List.getElem_cons_zero, List.getElem_cons_succ, List.setIfInBounds_toArray, List.set_cons_zero, List.set_cons_succ]
        refine wpAnyH_ready (rs := [8]) (by kernel_rfl) (by simp) (AllReadyH.cons (o := _) rfl (fun K hK => ?_) AllReadyH.nil)
        rw [if_pos (by kernel_rfl)]
        refine wp_app _ (.const (.slice none 0 0)) (.tmp 151) _ rfl w3.heap.size 91 i0 _ 3 24 Try.underlying70 hi0' hz0 hz1 Hz.out rfl (by omega) (.slice none 0 0) 0 [] rfl (own_nil _ _ _ _) (some ⟨b, o, none⟩) k cI (ods ((W.ax.map toO).take k)) rfl (fun e => by cases e) (show Rd w3.drew _ 3 k _ from hrow1) (ods_one _) (by unfold maxLen; omega) (by omega) (Nat.le_refl _) ?_
        intro vA wA hownA hgA hatA
        obtain ⟨AA, cA, rfl, hcA, hmA, haA⟩ := own_form hownA
        simp only [Nat.zero_add, List.nil_append] at hownA hcA haA ⊢
        have hgA' : w3.grownBy wA none := undrewG hgA
        have hsA : w3.heap.size ≤ wA.heap.size := hgA'.size
        have crA : wA.cell? ⟨wb, 3, none⟩ = some (.slice (some ⟨b, o, none⟩) n cI) := hgA'.cell cr (fun e => by cases e)
        have drA : wA.cell? ⟨gd, 2, none⟩ = some (.int .i64 (k : Int)) := hgA'.cell dr (fun e => by cases e)
        have hrow2A := hrow2.grown hgA' (fun a ha e => by cases e)
        refine hK.out _ _ drA (fun _ => ?_)
        clear hK K
        try simp only [Act.put, List.getElem_toArray, List.getElem_cons_zero, List.getElem_cons_succ, List.setIfInBounds_toArray, List.set_cons_zero, List.set_cons_succ]
        refine wpAnyH_ready (rs := [17]) (by kernel_rfl) (by simp) (AllReadyH.cons (o := _) rfl (fun K hK => ?_) AllReadyH.nil)
        rw [if_pos (by kernel_rfl)]
        refine wp_app _ (.tmp 152) (.tmp 160) _ rfl w3.heap.size 91 i0 _ 3 24 Try.underlying70 hi0' hz0 hz1 Hz.out rfl (by omega) (.slice AA k cA) k (ods ((W.ax.map toO).take k)) rfl hownA (some ⟨b, o + (k + 1) * 3, none⟩) (n - (k + 1)) (cI - (k + 1)) (ods ((W.ax.map toO).drop (k + 1))) rfl (fun e => by cases e) hrow2A (ods_one _) (by unfold maxLen; omega) (by omega) hsA ?_
        intro vD wD hownD hgD hatD
        skip
        obtain ⟨AD, cD, rfl, hcD, hmD, haD⟩ := own_form hownD
        have hgD' : w3.grownBy wD none := grown_step hgA' hgD (fun j e => .inl (hownA.lt j e).1)
        have kD : wD.cell? ⟨wb, 3, none⟩ = some (.slice (some ⟨b, o, none⟩) n cI) := hgD'.cell cr (fun e => by cases e)
        have dD : wD.cell? ⟨gd, 2, none⟩ = some (.int .i64 (k : Int)) := hgD'.cell dr (fun e => by cases e)
        have fD := (H3.out.blk.grown hgD' (fun e => by cases e)).free 3
        refine hK.out _ _ dD (fun _ => ?_)
        clear hK K
        try simp only [Act.put, List.getElem_toArray, List.getElem_cons_zero, List.getElem_cons_succ, List.setIfInBounds_toArray, List.set_cons_zero, List.set_cons_succ]
        refine wpAnyH_take (i := 18) (oi := _) (v := ?_) rfl (by kernel_rfl) (by kernel_rfl) (by kernel_rfl) (fun _ _ _ h => h) (Or.inl ⟨by kernel_rfl, ?_⟩) dD ?_
        rotate_left
        · (rintro w s0; go_simp; (first | done | rfl))
        try simp only [Act.put, List.getElem_toArray, List.getElem_cons_zero, List.getElem_cons_succ, List.setIfInBounds_toArray, List.set_cons_zero, List.set_cons_succ]
        refine wpAnyH_take (i := 19) (oi := _) (v := ?_) rfl (by kernel_rfl) (by kernel_rfl) (by kernel_rfl) (fun _ _ _ h => h) (Or.inl ⟨by kernel_rfl, ?_⟩) dD ?_
        rotate_left
        · (rintro w s0; go_simp; (first | done | rfl))
        try simp only [Act.put, List.getElem_toArray, List.getElem_cons_zero, List.getElem_cons_succ, List.setIfInBounds_toArray, List.set_cons_zero, List.set_cons_succ]
        refine wpAnyH_ready (rs := [20]) (by kernel_rfl) (by simp) (AllReadyH.cons (o := _) rfl (fun K hK => ?_) AllReadyH.nil)
        rw [if_pos (by kernel_rfl)]
        have dS : (wD.setCell ⟨wb, 3, none⟩ (.slice AD (k + (n - (k + 1))) cD)).cell? ⟨gd, 2, none⟩ = some (.int .i64 (k : Int)) := by rw [World.cell?_setCell_far _ ⟨wb, 3, none⟩ ⟨gd, 2, none⟩ _ (by show wb ≠ gd; omega)]; exact dD
        go_simp
        refine hK.out _ _ dS (fun _ => ?_)
        clear hK K
        try simp only [Act.put, List.getElem_toArray, List.getElem_cons_zero, List.getElem_cons_succ, List.setIfInBounds_toArray, List.set_cons_zero, List.set_cons_succ]
        refine wpAnyH_done (by kernel_rfl) ?_ _
        refine NoPanic.normal ?_
        have hF5 : Fu (fun k => xv.ownBlock = some k) w3 wD := Fu.ofGrown hgD' (fun k e => by cases e)
        obtain ⟨hT5, hB5⟩ := H3.out.axTo (w2 := wD) (v' := .slice AD (k + (n - (k + 1))) cD) (l := W.ax.eraseIdx k) hF5 (by rw [← axs_erase, show (W.ax.eraseIdx k).length = k + (n - (k + 1)) from by rw [List.length_eraseIdx_of_lt (by rw [Hn.out]; omega), Hn.out]; omega]; exact own_mono hownD (by omega)) (fun g e => .inr (hownD.lt g e).1)
        have hbe5 := (hbe3.grown hgD' (fun e => by cases e)).grown (grown_setCell wD ⟨wb, 3, none⟩ (.slice AD (k + (n - (k + 1))) cD)) (fun e => by injection e with e; simp only at e; omega)
        have hbd5 := (hbd3.grown hgD' (fun e => by cases e)).grown (grown_setCell wD ⟨wb, 3, none⟩ (.slice AD (k + (n - (k + 1))) cD)) (fun e => by injection e with e; simp only at e; omega)
        obtain ⟨w5, hw5⟩ : ∃ w5, wD.setCell ⟨wb, 3, none⟩ (.slice AD (k + (n - (k + 1))) cD) = w5 := ⟨_, rfl⟩
        rw [hw5] at hT5 hB5 hbe5 hbd5 ⊢
        have hB6 : Fr B P w w5 := hB3.trans hB5
        have H5 := Lib.hid hT5
        clear hw5 hF5 hT5 hB5 hownA hgA hgA' hgD' hownD hgD hatA hatD kD fD crA drA dD hrow1 hrow2A dS
        have f0 := H5.out.cs.1
        have g0 := hbe5.cell (j := 0) (u := .int .i64 x.a) rfl
        have g1 := hbe5.cell (j := 1) (u := .int .i64 x.k) rfl
        have g2 := hbe5.cell (j := 2) (u := .int .i64 x.id) rfl
        have hHr : ∀ p, Calls Try.prog 26 #[.pointer (some ⟨cg + 1, 0, none⟩), .int .i64 x.a, .int .i64 x.k, .int .i64 x.id] (w5.drewN p) fun r w' => (∃ e, r = .returned e) ∧ CdA w5 w' cg _ (hearS W.c x.a x.k x.id) := fun p => by
          refine (hear_ (w5.drewN p) cg _ W.c (H5.out.co.drewN p) x.a x.k x.id).mono ?_
          rintro r w' ⟨e1, e2⟩
          exact ⟨⟨_, e1⟩, e2.undrew⟩
        have hwc5 := H5.out.wbC
        clear hbe5 hbd5
        go_wp2_with fail
        go_region_held3 (fun w' => w'.cell? ⟨wb, 0, none⟩ = some (.pointer (some ⟨cg + 1, 0, none⟩)) ∧ w'.cell? ⟨ge, 0, none⟩ = some (.int .i64 x.a) ∧ w'.cell? ⟨ge, 1, none⟩ = some (.int .i64 x.k) ∧ w'.cell? ⟨ge, 2, none⟩ = some (.int .i64 x.id))
          (first | go_keep | exact ⟨f0, g0, g1, g2⟩ | exact ⟨fu_cell hA7.2 f0 (by simp only; omega), fu_cell hA7.2 g0 (by simp only; omega), fu_cell hA7.2 g1 (by simp only; omega), fu_cell hA7.2 g2 (by simp only; omega)⟩)
          (first | (go_at_call 26; refine (hHr _).mono ?_; rintro r w7 ⟨⟨v7, rfl⟩, hA7⟩))
        obtain ⟨h7, hb7⟩ := H5.out.coTo hA7
        go_end0
        rw [hWE.out]
        exact ⟨_, _, _, rfl, h7, hB6.trans hb7⟩
  · have hWE := Lib.hid (show wDo W d = W by
      rw [hWD.out]
      unfold wHear
      rw [if_neg (by rw [Hn.out]; simp [hasI]; omega)])
    clear hWD
    by_cases ha0 : 0 ≤ d.i
    · have t8 : decide (0 ≤ d.i) = true := decide_eq_true ha0
      have t9 : decide (d.i < (n : Int)) = false := decide_eq_false (by omega)
      clear ha ha0
      go_enter Try.func36, Try.ntmps36
      go_wp2_with fail
      rw [Hw.out, Hg.out]
      go_quiet (fail)
      go_wp2
      go_end0
      rw [hWE.out]
      exact ⟨_, _, _, rfl, H1.out.keep (by first | exact below_drew (Below.refl _ _) | exact below_drewN (Below.refl _ _) _), by first | exact hB1.drew | exact hB1.drewN _⟩
    · have t8 : decide (0 ≤ d.i) = false := decide_eq_false ha0
      clear ha ha0
      go_enter Try.func36, Try.ntmps36
      go_wp2_with fail
      rw [Hw.out, Hg.out]
      go_quiet (fail)
      go_wp2
      go_end0
      rw [hWE.out]
      exact ⟨_, _, _, rfl, H1.out.keep (by first | exact below_drew (Below.refl _ _) | exact below_drewN (Below.refl _ _) _), by first | exact hB1.drew | exact hB1.drewN _⟩
end
end Bar
end Go.Proofs.Ytpjbeodnalgkfaa
