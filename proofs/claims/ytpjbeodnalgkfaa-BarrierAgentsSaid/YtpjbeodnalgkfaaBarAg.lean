/- Layer 17: an agent answers every order as the document says (BarrierAgents). No condition. -/
import Derived.Test.YtpjbeodnalgkfaaBarAr
import Derived.Test.YtpjbeodnalgkfaaBarRa
set_option linter.all false
namespace Go.Proofs.Ytpjbeodnalgkfaa
open Go.ChangeShapes Go.WideShapes Go.ChangeAt Go.RowKit
namespace Bar
theorem enters_F (vs : Array Value) (w : World) : (callFunc 15 vs).run Try.prog w = .ok (.enter 15 vs) w := by go_simp
theorem enters_P (vs : Array Value) (w : World) : (callFunc 16 vs).run Try.prog w = .ok (.enter 16 vs) w := by go_simp
theorem enters_C (vs : Array Value) (w : World) : (callFunc 17 vs).run Try.prog w = .ok (.enter 17 vs) w := by go_simp
theorem enters_H (vs : Array Value) (w : World) : (callFunc 18 vs).run Try.prog w = .ok (.enter 18 vs) w := by go_simp
theorem cm_len (a : Ag) (k id : Int) : (ordS a k id).cm.length ≤ a.cm.length + 1 := by
  unfold ordS
  split
  · omega
  · split
    · split <;> simp
    · split
      · split <;> simp
      · split
        · split <;> simp
        · split
          · split <;> simp
          · omega
section
variable (w : World)
set_option maxRecDepth 100000 in
set_option maxHeartbeats 8000000 in
theorem agents_walk (A : Option Addr) (n c : Nat) (l : List Askd) (h : AskL w A n l) (hnc : n ≤ c) (hc : c * 24 ≤ 140737488351232) (z : Int) (hz : I64 z) :
    Calls Try.prog 3 #[.slice A n c, .int .i64 z] w fun r w' => r = .returned (.bool true) ∧ Below w.heap.size w w' := by
  have HL := Lib.hid h
  have hn : n ≤ 5864062014640 := by omega
  clear h
  go_enter Try.func3, Try.ntmps3
  go_wp2_with fail
  refine (anew_ w).mono ?_
  rintro r w1 ⟨rfl, hA1, hb1, hs1⟩
  obtain ⟨a, ha⟩ : ∃ a, w.heap.size = a := ⟨_, rfl⟩
  have Ha := Lib.hid ha
  rw [ha] at hA1 hb1 hs1 ⊢
  have hb2 : Below w1.heap.size w1 (w1.alloc (.cells #[.int .i64 0, .int .i64 0, .slice none 0 0] 27)) := (Below.refl _ _).alloc (Nat.le_refl _) _
  have k2 : Blk (w1.alloc (.cells #[.int .i64 0, .int .i64 0, .slice none 0 0] 27)) w1.heap.size 27 #[.int .i64 0, .int .i64 0, .slice none 0 0] := Blk.new w1 _ _ rfl
  have hR2 : Rg (w1.alloc (.cells #[.int .i64 0, .int .i64 0, .slice none 0 0] 27)) (a + 2) (fun k => a + 3 ≤ k) ag0 := ⟨none, 0, 0, by rw [hs1] at k2; exact k2, ⟨Is.nil, Nat.le_refl _, by omega, fun a e => (by cases e)⟩, by omega, fun _ => rfl⟩
  have hA2 := hA1.keep hb2
  have hB2 := hb1.trans (hb2.mono (by omega))
  have hs2 : (w1.alloc (.cells #[.int .i64 0, .int .i64 0, .slice none 0 0] 27)).heap.size = a + 3 := by simp [hs1]
  clear hA1 hb1 hb2 k2 ha
  go_wp2_with fail
  obtain ⟨w2, hw2⟩ : ∃ w2, w1.alloc (.cells #[.int .i64 0, .int .i64 0, .slice none 0 0] 27) = w2 := ⟨_, rfl⟩
  rw [hw2] at hR2 hA2 hB2 hs2 ⊢
  clear hw2 hs1
  refine (alive_ w2).mono ?_
  rintro r w3 ⟨rfl, hb3⟩
  have hA3 := hA2.keep hb3
  have hR3 := hR2.keep hb3
  have hB3 := hB2.trans (hb3.mono (by omega))
  have hs3 : a + 3 ≤ w3.heap.size := by have := hb3.size; omega
  clear hA2 hR2 hB2 hs2 hb3
  go_wp2_with fail
  go_loopw [18] (fun iv wr => ∃ (i : Nat) (s : Ag), i ≤ n ∧ iv = .int .i64 (i : Int) ∧ AgX wr a s ∧ Rg wr (a + 2) (fun k => a + 3 ≤ k) s ∧ Below a w wr ∧ a + 3 ≤ wr.heap.size ∧ Hid (s.cm.length ≤ i)) (fun iv _ => n - (intOf iv).toNat)
  case atStart => exact ⟨0, ag0, Nat.zero_le _, rfl, hA3, hR3, hB3, hs3, Lib.hid (by simp [ag0])⟩
  case round =>
    obtain ⟨i, s, hi, rfl, hA, hR, hB, hsz, hcm⟩ := hrel
    clear hA3 hR3 hB3 hs3
    by_cases hlt : i < n
    · have hil : (i : Int) < (n : Int) := by omega
      have hi0 : (0 : Int) ≤ (i : Int) := by omega
      obtain ⟨ba, oa, x, rfl, hl, hF, hcs⟩ := HL.out.at_ i hlt
      have hBw : Below w.heap.size w wr := by rw [Ha.out]; exact hB
      have d0 : wr.cell? ⟨ba, oa + i * 3, none⟩ = some (.int .i64 x.kd) := (hBw.cell (cell_lt (hcs 0 _ rfl))).trans (hcs 0 _ rfl)
      have d1 : wr.cell? ⟨ba, oa + i * 3 + 1, none⟩ = some (.int .i64 x.id) := (hBw.cell (cell_lt (hcs 1 _ rfl))).trans (hcs 1 _ rfl)
      have d2 : wr.cell? ⟨ba, oa + i * 3 + 2, none⟩ = some (.bool x.cr) := (hBw.cell (cell_lt (hcs 2 _ rfl))).trans (hcs 2 _ rfl)
      obtain ⟨xk, xi, xc⟩ := x
      cases xc with
      | true =>
        have hba : Below wr.heap.size wr (wr.alloc (.cells (aska ⟨xk, xi, true⟩) 30)) := (Below.refl _ _).alloc (Nat.le_refl _) _
        have hbd : Blk (wr.alloc (.cells (aska ⟨xk, xi, true⟩) 30)) wr.heap.size 30 (aska ⟨xk, xi, true⟩) := Blk.new wr _ _ rfl
        have hA4 := hA.keep hba
        have hR4 := hR.keep hba
        have hB4 := hB.trans (hba.mono (by omega))
        have hs4 : (wr.alloc (.cells (aska ⟨xk, xi, true⟩) 30)).heap.size = wr.heap.size + 1 := by simp
        obtain ⟨gd, hgd⟩ : ∃ g, wr.heap.size = g := ⟨_, rfl⟩
        have Hgd := Lib.hid hgd
        obtain ⟨w4, hw4⟩ : ∃ w4, wr.alloc (.cells (aska ⟨xk, xi, true⟩) 30) = w4 := ⟨_, rfl⟩
        have Hw4 := Lib.hid hw4
        rw [hw4] at hbd hA4 hR4 hB4 hs4
        rw [hgd] at hbd hs4 hsz
        have e0 := hbd.cell (j := 0) (u := .int .i64 xk) rfl
        have e1 := hbd.cell (j := 1) (u := .int .i64 xi) rfl
        have e2 := hbd.cell (j := 2) (u := .bool true) rfl
        have hid := hF.id
        clear hA hR hB hba hw4 hgd hcs hF hBw hl
        go_wp2_with fail
        rw [Hw4.out, Hgd.out]
        refine (acrash_ w4 a s hA4).mono ?_
        rintro r w5 ⟨rfl, hA5, hF5⟩
        have hR5 := hR4.fu hF5 (fun k hk => by omega) (by omega)
        have g1 := fu_cell hF5 e1 (by simp only; omega)
        have hB5 := hB4.trans (hF5.below (B := a) (by omega) (fun j q => by omega))
        have hs5 := hF5.size
        obtain ⟨A5, n5, cp5, hX5⟩ := hR5
        have o0 := hX5.cells.1
        have p0 := hX5.blk.free 0
        have hF6 : Fu (fun k => k = a + 2) w5 (w5.setCell ⟨a + 2, 0, none⟩ (.int .i64 0)) := fu_set (S := fun k => k = a + 2) (Fu.refl _ _) _ _ _ rfl
        have hR6 : Rg (w5.setCell ⟨a + 2, 0, none⟩ (.int .i64 0)) (a + 2) (fun k => a + 3 ≤ k) (crA s) := ⟨A5, n5, cp5, hX5.setF 0⟩
        have hA6 := hA5.fu hF6 (by omega) (by omega)
        have g16 := fu_cell hF6 g1 (by simp only; omega)
        have hB6 := hB5.trans (hF6.below (B := a) (by omega) (fun j q => by omega))
        have hs6 : a + 3 ≤ (w5.setCell ⟨a + 2, 0, none⟩ (.int .i64 0)).heap.size := by have := hF6.size; omega
        have hcm5 := Lib.hid (show (crA s).cm.length ≤ i + 1 from Nat.le_trans hcm.out (Nat.le_succ _))
        clear hA4 hR4 hB4 hs4 e0 e1 e2 hF5 hF6 hX5 hA5 hB5 hs5 g1 Hw4 Hgd
        go_wp2_with fail
        obtain ⟨w5c, hw5c⟩ : ∃ W, w5.setCell ⟨a + 2, 0, none⟩ (.int .i64 0) = W := ⟨_, rfl⟩
        rw [hw5c] at hR6 hA6 g16 hB6 hs6 ⊢
        obtain ⟨s5, hs5e⟩ : ∃ s', crA s = s' := ⟨_, rfl⟩
        rw [hs5e] at hR6 hA6 hcm5
        clear hw5c hs5e o0 p0
        have hA5 := hA6
        have hR5 := hR6
        have g1 := g16
        have hB5 := hB6
        clear hA6 hR6 g16 hB6
        obtain ⟨A5, n5, cp5, hX5⟩ := hR5
        obtain ⟨q0, q1, q2⟩ := hX5.cells
        have hI5 := hX5.row.is
        have hcap5 := hX5.row.cap
        have htop5 := hX5.row.top
        obtain ⟨m1, hm1⟩ : ∃ b, cmB s5 xi = b := ⟨_, rfl⟩
        obtain ⟨m2, hm2⟩ : ∃ b, cmB s5 z = b := ⟨_, rfl⟩
        have hC1 : ∀ W, AgX W a s5 → Calls Try.prog 17 #[.pointer (some ⟨a + 1, 0, none⟩), .int .i64 xi] W fun r w' => r = .returned (.bool m1) ∧ Below W.heap.size W w' := fun W hW => hm1 ▸ committed_ W a s5 hW xi hid
        have hC2 : ∀ W, AgX W a s5 → Calls Try.prog 17 #[.pointer (some ⟨a + 1, 0, none⟩), .int .i64 z] W fun r w' => r = .returned (.bool m2) ∧ Below W.heap.size W w' := fun W hW => hm2 ▸ committed_ W a s5 hW z hz
        have hH1 : ∀ W, Is W A5 n5 s5.cm → Calls Try.prog 18 #[.slice A5 n5 cp5, .int .i64 xi] W fun r w' => r = .returned (.bool m1) ∧ W = w' := fun W hW => by
          have := has_ W A5 n5 cp5 s5.cm hW hcap5 htop5 xi
          rwa [show decide (xi ∈ s5.cm) = m1 from hm1] at this
        have hH2 : ∀ W, Is W A5 n5 s5.cm → Calls Try.prog 18 #[.slice A5 n5 cp5, .int .i64 z] W fun r w' => r = .returned (.bool m2) ∧ W = w' := fun W hW => by
          have := has_ W A5 n5 cp5 s5.cm hW hcap5 htop5 z
          rwa [show decide (z ∈ s5.cm) = m2 from hm2] at this
        have HX5 := Lib.hid hX5
        obtain ⟨y0, hy0⟩ : ∃ y, s5.fz = y := ⟨_, rfl⟩
        obtain ⟨y1, hy1⟩ : ∃ y, s5.pr = y := ⟨_, rfl⟩
        have hZ : ∀ W, AgX W a s5 → Calls Try.prog 15 #[.pointer (some ⟨a + 1, 0, none⟩)] W fun r w' => r = .returned (.int .i64 y0) ∧ W = w' := fun W hW => hy0 ▸ frozen_ W a s5 hW
        have hP : ∀ W, AgX W a s5 → Calls Try.prog 16 #[.pointer (some ⟨a + 1, 0, none⟩)] W fun r w' => r = .returned (.int .i64 y1) ∧ W = w' := fun W hW => hy1 ▸ prepared_ W a s5 hW
        rw [hy0] at q0
        rw [hy1] at q1
        have n0 : (y0 != y0) = false := by simp
        have n1 : (y1 != y1) = false := by simp
        have n2 : (m1 != m1) = false := by simp
        have n3 : (m2 != m2) = false := by simp
        have hAd := hA5.drewN 1
        have hId : Is w5c.drew A5 n5 s5.cm := hI5
        clear hm1 hm2 hX5 hy0 hy1 hcap5 htop5
        go_wp2_with fail
        refine wp_region_noPanic ?_
        refine wp_region_held_drew (S := (fun w' => w'.cell? ⟨gd, 1, none⟩ = some (.int .i64 xi) ∧ w'.cell? ⟨a + 2, 0, none⟩ = some (.int .i64 y0) ∧ w'.cell? ⟨a + 2, 1, none⟩ = some (.int .i64 y1) ∧ w'.cell? ⟨a + 2, 2, none⟩ = some (.slice A5 n5 cp5))) (by kernel_rfl) ⟨g1, q0, q1, q2⟩ (fun _ => ?_)
        refine wpAnyH_take (i := 0) (oi := _) (v := ?_) rfl (by kernel_rfl) (by kernel_rfl) (by kernel_rfl) (fun _ _ _ h => h) (Or.inl ⟨by kernel_rfl, ?_⟩) ⟨g1, q0, q1, q2⟩ ?_
        rotate_left
        · (rintro w ⟨s1, s2, s3, s4⟩; go_simp; (first | done | rfl))
        try simp only [Act.put, List.getElem_toArray, List.getElem_cons_zero, List.getElem_cons_succ, List.setIfInBounds_toArray, List.set_cons_zero, List.set_cons_succ]
        refine wpAnyH_take (i := 2) (oi := _) (v := ?_) rfl (by kernel_rfl) (by kernel_rfl) (by kernel_rfl) (fun _ _ _ h => h) (Or.inl ⟨by kernel_rfl, ?_⟩) ⟨g1, q0, q1, q2⟩ ?_
        rotate_left
        · (rintro w ⟨s1, s2, s3, s4⟩; go_simp; (first | done | rfl))
        try simp only [Act.put, List.getElem_toArray, List.getElem_cons_zero, List.getElem_cons_succ, List.setIfInBounds_toArray, List.set_cons_zero, List.set_cons_succ]
        refine wpAnyH_take (i := 3) (oi := _) (v := ?_) rfl (by kernel_rfl) (by kernel_rfl) (by kernel_rfl) (fun _ _ _ h => h) (Or.inl ⟨by kernel_rfl, ?_⟩) ⟨g1, q0, q1, q2⟩ ?_
        rotate_left
        · (rintro w ⟨s1, s2, s3, s4⟩; go_simp; (first | done | rfl))
        try simp only [Act.put, List.getElem_toArray, List.getElem_cons_zero, List.getElem_cons_succ, List.setIfInBounds_toArray, List.set_cons_zero, List.set_cons_succ]
        refine wpAnyH_ready (rs := [1]) (by kernel_rfl) (by simp) (AllReadyH.cons (o := _) rfl (fun K hK => ?_) AllReadyH.nil)
        rw [if_pos (by kernel_rfl)]
        refine wp_fn 15 _ _ rfl _ rfl enters_F (hZ _ hAd) ?_
        rintro r w' ⟨rfl, rfl⟩
        refine ⟨_, rfl, ?_⟩
        refine hK.out _ _ ⟨g1, q0, q1, q2⟩ (fun _ => ?_)
        clear hK K
        try simp only [Act.put, List.getElem_toArray, List.getElem_cons_zero, List.getElem_cons_succ, List.setIfInBounds_toArray, List.set_cons_zero, List.set_cons_succ]
        refine wpAnyH_take (i := 4) (oi := _) (v := ?_) rfl (by kernel_rfl) (by kernel_rfl) (by kernel_rfl) (fun _ _ _ h => h) (Or.inl ⟨by kernel_rfl, ?_⟩) ⟨g1, q0, q1, q2⟩ ?_
        rotate_left
        · (rintro w ⟨s1, s2, s3, s4⟩; go_simp; (first | done | rfl))
        try simp only [Act.put, List.getElem_toArray, List.getElem_cons_zero, List.getElem_cons_succ, List.setIfInBounds_toArray, List.set_cons_zero, List.set_cons_succ]
        refine wpAnyH_take (i := 5) (oi := _) (v := ?_) rfl (by kernel_rfl) (by kernel_rfl) (by kernel_rfl) (fun _ _ _ h => h) (Or.inl ⟨by kernel_rfl, ?_⟩) ⟨g1, q0, q1, q2⟩ ?_
        rotate_left
        · (rintro w ⟨s1, s2, s3, s4⟩; go_simp; (first | done | rfl))
        try simp only [Act.put, List.getElem_toArray, List.getElem_cons_zero, List.getElem_cons_succ, List.setIfInBounds_toArray, List.set_cons_zero, List.set_cons_succ]
        refine wpAnyH_take (i := 6) (oi := _) (v := ?_) rfl (by kernel_rfl) (by kernel_rfl) (by kernel_rfl) (fun _ _ _ h => h) (Or.inl ⟨by kernel_rfl, ?_⟩) ⟨g1, q0, q1, q2⟩ ?_
        rotate_left
        · (rintro w ⟨s1, s2, s3, s4⟩; go_simp; (first | done | rfl))
        try simp only [Act.put, List.getElem_toArray, List.getElem_cons_zero, List.getElem_cons_succ, List.setIfInBounds_toArray, List.set_cons_zero, List.set_cons_succ]
        refine wpAnyH_take (i := 8) (oi := _) (v := ?_) rfl (by kernel_rfl) (by kernel_rfl) (by kernel_rfl) (fun _ _ _ h => h) (Or.inl ⟨by kernel_rfl, ?_⟩) ⟨g1, q0, q1, q2⟩ ?_
        rotate_left
        · (rintro w ⟨s1, s2, s3, s4⟩; go_simp; (first | done | rfl))
        try simp only [Act.put, List.getElem_toArray, List.getElem_cons_zero, List.getElem_cons_succ, List.setIfInBounds_toArray, List.set_cons_zero, List.set_cons_succ]
        refine wpAnyH_take (i := 9) (oi := _) (v := ?_) rfl (by kernel_rfl) (by kernel_rfl) (by kernel_rfl) (fun _ _ _ h => h) (Or.inl ⟨by kernel_rfl, ?_⟩) ⟨g1, q0, q1, q2⟩ ?_
        rotate_left
        · (rintro w ⟨s1, s2, s3, s4⟩; go_simp; (first | done | rfl))
        try simp only [Act.put, List.getElem_toArray, List.getElem_cons_zero, List.getElem_cons_succ, List.setIfInBounds_toArray, List.set_cons_zero, List.set_cons_succ]
        refine wpAnyH_ready (rs := [7]) (by kernel_rfl) (by simp) (AllReadyH.cons (o := _) rfl (fun K hK => ?_) AllReadyH.nil)
        rw [if_pos (by kernel_rfl)]
        refine wp_fn 16 _ _ rfl _ rfl enters_P (hP _ hAd) ?_
        rintro r w' ⟨rfl, rfl⟩
        refine ⟨_, rfl, ?_⟩
        refine hK.out _ _ ⟨g1, q0, q1, q2⟩ (fun _ => ?_)
        clear hK K
        try simp only [Act.put, List.getElem_toArray, List.getElem_cons_zero, List.getElem_cons_succ, List.setIfInBounds_toArray, List.set_cons_zero, List.set_cons_succ]
        refine wpAnyH_take (i := 10) (oi := _) (v := ?_) rfl (by kernel_rfl) (by kernel_rfl) (by kernel_rfl) (fun _ _ _ h => h) (Or.inl ⟨by kernel_rfl, ?_⟩) ⟨g1, q0, q1, q2⟩ ?_
        rotate_left
        · (rintro w ⟨s1, s2, s3, s4⟩; go_simp; (first | done | rfl))
        try simp only [Act.put, List.getElem_toArray, List.getElem_cons_zero, List.getElem_cons_succ, List.setIfInBounds_toArray, List.set_cons_zero, List.set_cons_succ]
        refine wpAnyH_take (i := 11) (oi := _) (v := ?_) rfl (by kernel_rfl) (by kernel_rfl) (by kernel_rfl) (fun _ _ _ h => h) (Or.inl ⟨by kernel_rfl, ?_⟩) ⟨g1, q0, q1, q2⟩ ?_
        rotate_left
        · (rintro w ⟨s1, s2, s3, s4⟩; go_simp; (first | done | rfl))
        try simp only [Act.put, List.getElem_toArray, List.getElem_cons_zero, List.getElem_cons_succ, List.setIfInBounds_toArray, List.set_cons_zero, List.set_cons_succ]
        refine wpAnyH_take (i := 12) (oi := _) (v := ?_) rfl (by kernel_rfl) (by kernel_rfl) (by kernel_rfl) (fun _ _ _ h => h) (Or.inl ⟨by kernel_rfl, ?_⟩) ⟨g1, q0, q1, q2⟩ ?_
        rotate_left
        · (rintro w ⟨s1, s2, s3, s4⟩; go_simp; (first | done | rfl))
        try simp only [Act.put, List.getElem_toArray, List.getElem_cons_zero, List.getElem_cons_succ, List.setIfInBounds_toArray, List.set_cons_zero, List.set_cons_succ]
        refine wpAnyH_take (i := 13) (oi := _) (v := ?_) rfl (by kernel_rfl) (by kernel_rfl) (by kernel_rfl) (fun _ _ _ h => h) (Or.inl ⟨by kernel_rfl, ?_⟩) ⟨g1, q0, q1, q2⟩ ?_
        rotate_left
        · (rintro w ⟨s1, s2, s3, s4⟩; go_simp; (first | done | rfl))
        try simp only [Act.put, List.getElem_toArray, List.getElem_cons_zero, List.getElem_cons_succ, List.setIfInBounds_toArray, List.set_cons_zero, List.set_cons_succ]
        refine wpAnyH_take (i := 14) (oi := _) (v := ?_) rfl (by kernel_rfl) (by kernel_rfl) (by kernel_rfl) (fun _ _ _ h => h) (Or.inl ⟨by kernel_rfl, ?_⟩) ⟨g1, q0, q1, q2⟩ ?_
        rotate_left
        · (rintro w ⟨s1, s2, s3, s4⟩; go_simp; (first | done | rfl))
        try simp only [Act.put, List.getElem_toArray, List.getElem_cons_zero, List.getElem_cons_succ, List.setIfInBounds_toArray, List.set_cons_zero, List.set_cons_succ]
        refine wpAnyH_take (i := 15) (oi := _) (v := ?_) rfl (by kernel_rfl) (by kernel_rfl) (by kernel_rfl) (fun _ _ _ h => h) (Or.inl ⟨by kernel_rfl, ?_⟩) ⟨g1, q0, q1, q2⟩ ?_
        rotate_left
        · (rintro w ⟨s1, s2, s3, s4⟩; go_simp; (first | done | rfl))
        try simp only [Act.put, List.getElem_toArray, List.getElem_cons_zero, List.getElem_cons_succ, List.setIfInBounds_toArray, List.set_cons_zero, List.set_cons_succ]
        refine wpAnyH_take (i := 17) (oi := _) (v := ?_) rfl (by kernel_rfl) (by kernel_rfl) (by kernel_rfl) (fun _ _ _ h => h) (Or.inl ⟨by kernel_rfl, ?_⟩) ⟨g1, q0, q1, q2⟩ ?_
        rotate_left
        · (rintro w ⟨s1, s2, s3, s4⟩; go_simp; (first | done | rfl))
        try simp only [Act.put, List.getElem_toArray, List.getElem_cons_zero, List.getElem_cons_succ, List.setIfInBounds_toArray, List.set_cons_zero, List.set_cons_succ]
        refine wpAnyH_take (i := 18) (oi := _) (v := ?_) rfl (by kernel_rfl) (by kernel_rfl) (by kernel_rfl) (fun _ _ _ h => h) (Or.inl ⟨by kernel_rfl, ?_⟩) ⟨g1, q0, q1, q2⟩ ?_
        rotate_left
        · (rintro w ⟨s1, s2, s3, s4⟩; go_simp; (first | done | rfl))
        try simp only [Act.put, List.getElem_toArray, List.getElem_cons_zero, List.getElem_cons_succ, List.setIfInBounds_toArray, List.set_cons_zero, List.set_cons_succ]
        refine wpAnyH_take (i := 19) (oi := _) (v := ?_) rfl (by kernel_rfl) (by kernel_rfl) (by kernel_rfl) (fun _ _ _ h => h) (Or.inl ⟨by kernel_rfl, ?_⟩) ⟨g1, q0, q1, q2⟩ ?_
        rotate_left
        · (rintro w ⟨s1, s2, s3, s4⟩; go_simp; (first | done | rfl))
        try simp only [Act.put, List.getElem_toArray, List.getElem_cons_zero, List.getElem_cons_succ, List.setIfInBounds_toArray, List.set_cons_zero, List.set_cons_succ]
        refine wpAnyH_take (i := 20) (oi := _) (v := ?_) rfl (by kernel_rfl) (by kernel_rfl) (by kernel_rfl) (fun _ _ _ h => h) (Or.inl ⟨by kernel_rfl, ?_⟩) ⟨g1, q0, q1, q2⟩ ?_
        rotate_left
        · (rintro w ⟨s1, s2, s3, s4⟩; go_simp; (first | done | rfl))
        try simp only [Act.put, List.getElem_toArray, List.getElem_cons_zero, List.getElem_cons_succ, List.setIfInBounds_toArray, List.set_cons_zero, List.set_cons_succ]
        refine wpAnyH_ready (rs := [16]) (by kernel_rfl) (by simp) (AllReadyH.cons (o := _) rfl (fun K hK => ?_) AllReadyH.nil)
        rw [if_pos (by kernel_rfl)]
        refine wp_fn 17 _ _ rfl _ rfl enters_C (hC1 _ hAd) ?_
        rintro r wA ⟨rfl, hbA⟩
        have hAA := hAd.keep hbA
        have hIA := hId.below hbA
        have r1 := (hbA.cell (cell_lt (show w5c.drew.cell? _ = _ from g1))).trans g1
        have r2 := (hbA.cell (cell_lt (show w5c.drew.cell? _ = _ from q0))).trans q0
        have r3 := (hbA.cell (cell_lt (show w5c.drew.cell? _ = _ from q1))).trans q1
        have r4 := (hbA.cell (cell_lt (show w5c.drew.cell? _ = _ from q2))).trans q2
        refine ⟨_, rfl, ?_⟩
        refine hK.out _ _ ⟨r1, r2, r3, r4⟩ (fun _ => ?_)
        clear hK K
        try simp only [Act.put, List.getElem_toArray, List.getElem_cons_zero, List.getElem_cons_succ, List.setIfInBounds_toArray, List.set_cons_zero, List.set_cons_succ]
        refine wpAnyH_ready (rs := [21]) (by kernel_rfl) (by simp) (AllReadyH.cons (o := _) rfl (fun K hK => ?_) AllReadyH.nil)
        rw [if_pos (by kernel_rfl)]
        refine wp_fn 18 _ _ rfl _ rfl enters_H (hH1 _ hIA) ?_
        rintro r w' ⟨rfl, rfl⟩
        refine ⟨_, rfl, ?_⟩
        refine hK.out _ _ ⟨r1, r2, r3, r4⟩ (fun _ => ?_)
        clear hK K
        try simp only [Act.put, List.getElem_toArray, List.getElem_cons_zero, List.getElem_cons_succ, List.setIfInBounds_toArray, List.set_cons_zero, List.set_cons_succ]
        refine wpAnyH_take (i := 22) (oi := _) (v := ?_) rfl (by kernel_rfl) (by kernel_rfl) (by kernel_rfl) (fun _ _ _ h => h) (Or.inl ⟨by kernel_rfl, ?_⟩) ⟨r1, r2, r3, r4⟩ ?_
        rotate_left
        · (rintro w ⟨s1, s2, s3, s4⟩; go_simp; (first | done | rfl))
        try simp only [Act.put, List.getElem_toArray, List.getElem_cons_zero, List.getElem_cons_succ, List.setIfInBounds_toArray, List.set_cons_zero, List.set_cons_succ]
        refine wpAnyH_take (i := 23) (oi := _) (v := ?_) rfl (by kernel_rfl) (by kernel_rfl) (by kernel_rfl) (fun _ _ _ h => h) (Or.inl ⟨by kernel_rfl, ?_⟩) ⟨r1, r2, r3, r4⟩ ?_
        rotate_left
        · (rintro w ⟨s1, s2, s3, s4⟩; go_simp; (first | done | rfl))
        try simp only [Act.put, List.getElem_toArray, List.getElem_cons_zero, List.getElem_cons_succ, List.setIfInBounds_toArray, List.set_cons_zero, List.set_cons_succ]
        refine wpAnyH_take (i := 24) (oi := _) (v := ?_) rfl (by kernel_rfl) (by kernel_rfl) (by kernel_rfl) (fun _ _ _ h => h) (Or.inl ⟨by kernel_rfl, ?_⟩) ⟨r1, r2, r3, r4⟩ ?_
        rotate_left
        · (rintro w ⟨s1, s2, s3, s4⟩; go_simp; (first | done | rfl))
        try simp only [Act.put, List.getElem_toArray, List.getElem_cons_zero, List.getElem_cons_succ, List.setIfInBounds_toArray, List.set_cons_zero, List.set_cons_succ]
        refine wpAnyH_take (i := 25) (oi := _) (v := ?_) rfl (by kernel_rfl) (by kernel_rfl) (by kernel_rfl) (fun _ _ _ h => h) (Or.inl ⟨by kernel_rfl, ?_⟩) ⟨r1, r2, r3, r4⟩ ?_
        rotate_left
        · (rintro w ⟨s1, s2, s3, s4⟩; go_simp; (first | done | rfl))
        try simp only [Act.put, List.getElem_toArray, List.getElem_cons_zero, List.getElem_cons_succ, List.setIfInBounds_toArray, List.set_cons_zero, List.set_cons_succ]
        refine wpAnyH_take (i := 26) (oi := _) (v := ?_) rfl (by kernel_rfl) (by kernel_rfl) (by kernel_rfl) (fun _ _ _ h => h) (Or.inl ⟨by kernel_rfl, ?_⟩) ⟨r1, r2, r3, r4⟩ ?_
        rotate_left
        · (rintro w ⟨s1, s2, s3, s4⟩; go_simp; (first | done | rfl))
        try simp only [Act.put, List.getElem_toArray, List.getElem_cons_zero, List.getElem_cons_succ, List.setIfInBounds_toArray, List.set_cons_zero, List.set_cons_succ]
        refine wpAnyH_take (i := 28) (oi := _) (v := ?_) rfl (by kernel_rfl) (by kernel_rfl) (by kernel_rfl) (fun _ _ _ h => h) (Or.inl ⟨by kernel_rfl, ?_⟩) ⟨r1, r2, r3, r4⟩ ?_
        rotate_left
        · (rintro w ⟨s1, s2, s3, s4⟩; go_simp; (first | done | rfl))
        try simp only [Act.put, List.getElem_toArray, List.getElem_cons_zero, List.getElem_cons_succ, List.setIfInBounds_toArray, List.set_cons_zero, List.set_cons_succ]
        refine wpAnyH_take (i := 29) (oi := _) (v := ?_) rfl (by kernel_rfl) (by kernel_rfl) (by kernel_rfl) (fun _ _ _ h => h) (Or.inl ⟨by kernel_rfl, ?_⟩) ⟨r1, r2, r3, r4⟩ ?_
        rotate_left
        · (rintro w ⟨s1, s2, s3, s4⟩; go_simp; (first | done | rfl))
        try simp only [Act.put, List.getElem_toArray, List.getElem_cons_zero, List.getElem_cons_succ, List.setIfInBounds_toArray, List.set_cons_zero, List.set_cons_succ]
        refine wpAnyH_take (i := 30) (oi := _) (v := ?_) rfl (by kernel_rfl) (by kernel_rfl) (by kernel_rfl) (fun _ _ _ h => h) (Or.inl ⟨by kernel_rfl, ?_⟩) ⟨r1, r2, r3, r4⟩ ?_
        rotate_left
        · (rintro w ⟨s1, s2, s3, s4⟩; go_simp; (first | done | rfl))
        try simp only [Act.put, List.getElem_toArray, List.getElem_cons_zero, List.getElem_cons_succ, List.setIfInBounds_toArray, List.set_cons_zero, List.set_cons_succ]
        refine wpAnyH_ready (rs := [27]) (by kernel_rfl) (by simp) (AllReadyH.cons (o := _) rfl (fun K hK => ?_) AllReadyH.nil)
        rw [if_pos (by kernel_rfl)]
        refine wp_fn 17 _ _ rfl _ rfl enters_C (hC2 _ hAA) ?_
        rintro r wB ⟨rfl, hbB⟩
        have hIB := hIA.below hbB
        have u1 := (hbB.cell (cell_lt r1)).trans r1
        have u2 := (hbB.cell (cell_lt r2)).trans r2
        have u3 := (hbB.cell (cell_lt r3)).trans r3
        have u4 := (hbB.cell (cell_lt r4)).trans r4
        refine ⟨_, rfl, ?_⟩
        refine hK.out _ _ ⟨u1, u2, u3, u4⟩ (fun _ => ?_)
        clear hK K
        try simp only [Act.put, List.getElem_toArray, List.getElem_cons_zero, List.getElem_cons_succ, List.setIfInBounds_toArray, List.set_cons_zero, List.set_cons_succ]
        refine wpAnyH_ready (rs := [31]) (by kernel_rfl) (by simp) (AllReadyH.cons (o := _) rfl (fun K hK => ?_) AllReadyH.nil)
        rw [if_pos (by kernel_rfl)]
        refine wp_fn 18 _ _ rfl _ rfl enters_H (hH2 _ hIB) ?_
        rintro r w' ⟨rfl, rfl⟩
        refine ⟨_, rfl, ?_⟩
        refine hK.out _ _ ⟨u1, u2, u3, u4⟩ (fun _ => ?_)
        clear hK K
        try simp only [Act.put, List.getElem_toArray, List.getElem_cons_zero, List.getElem_cons_succ, List.setIfInBounds_toArray, List.set_cons_zero, List.set_cons_succ]
        refine wpAnyH_take (i := 32) (oi := _) (v := ?_) rfl (by kernel_rfl) (by kernel_rfl) (by kernel_rfl) (fun _ _ _ h => h) (Or.inl ⟨by kernel_rfl, ?_⟩) ⟨u1, u2, u3, u4⟩ ?_
        rotate_left
        · (rintro w ⟨s1, s2, s3, s4⟩; go_simp; (first | done | rfl))
        try simp only [Act.put, List.getElem_toArray, List.getElem_cons_zero, List.getElem_cons_succ, List.setIfInBounds_toArray, List.set_cons_zero, List.set_cons_succ]
        refine wpAnyH_take (i := 33) (oi := _) (v := ?_) rfl (by kernel_rfl) (by kernel_rfl) (by kernel_rfl) (fun _ _ _ h => h) (Or.inl ⟨by kernel_rfl, ?_⟩) ⟨u1, u2, u3, u4⟩ ?_
        rotate_left
        · (rintro w ⟨s1, s2, s3, s4⟩; go_simp; (first | done | rfl))
        try simp only [Act.put, List.getElem_toArray, List.getElem_cons_zero, List.getElem_cons_succ, List.setIfInBounds_toArray, List.set_cons_zero, List.set_cons_succ]
        refine wpAnyH_done (by kernel_rfl) ?_ _
        refine NoPanic.normal ?_
        have hbAB : Below w5c.heap.size w5c wB := ((below_drew (Below.refl _ _)).trans hbA).trans (hbB.mono hbA.size)
        have hR7 : Rg wB (a + 2) (fun k => a + 3 ≤ k) s5 := Rg.keep ⟨A5, n5, cp5, HX5.out⟩ hbAB
        have hA7 := hA5.keep hbAB
        have hB7 := hB5.trans (hbAB.mono (by omega))
        have hs7 : a + 3 ≤ wB.heap.size := by have := hbAB.size; omega
        clear hA5 hB5 hC1 hC2 hH1 hH2 hZ hP hAd hId hI5 g1 q0 q1 q2 d0 d1 d2 hAA hIA hIB r1 r2 r3 r4 u1 u2 u3 u4 hbA hbB hbAB
        go_wp2
        go_roundw
        case rel => exact ⟨i + 1, s5, by omega, by go_num, hA7, hR7, hB7, hs7, hcm5⟩
        case measure => simp [intOf]; omega
      | false =>
        have hba : Below wr.heap.size wr (wr.alloc (.cells (aska ⟨xk, xi, false⟩) 30)) := (Below.refl _ _).alloc (Nat.le_refl _) _
        have hbd : Blk (wr.alloc (.cells (aska ⟨xk, xi, false⟩) 30)) wr.heap.size 30 (aska ⟨xk, xi, false⟩) := Blk.new wr _ _ rfl
        have hA4 := hA.keep hba
        have hR4 := hR.keep hba
        have hB4 := hB.trans (hba.mono (by omega))
        have hs4 : (wr.alloc (.cells (aska ⟨xk, xi, false⟩) 30)).heap.size = wr.heap.size + 1 := by simp
        obtain ⟨gd, hgd⟩ : ∃ g, wr.heap.size = g := ⟨_, rfl⟩
        have Hgd := Lib.hid hgd
        obtain ⟨w4, hw4⟩ : ∃ w4, wr.alloc (.cells (aska ⟨xk, xi, false⟩) 30) = w4 := ⟨_, rfl⟩
        have Hw4 := Lib.hid hw4
        rw [hw4] at hbd hA4 hR4 hB4 hs4
        rw [hgd] at hbd hs4 hsz
        have e0 := hbd.cell (j := 0) (u := .int .i64 xk) rfl
        have e1 := hbd.cell (j := 1) (u := .int .i64 xi) rfl
        have e2 := hbd.cell (j := 2) (u := .bool false) rfl
        have hid := hF.id
        clear hA hR hB hba hw4 hgd hcs hF hBw hl
        have hO1 := order_ w4.drew a s (hA4.drewN 1) xk xi hid (by have := hcm.out; omega)
        have hO2 : ∀ W, Rg W (a + 2) (fun k => a + 3 ≤ k) s → Calls Try.prog 14 #[.pointer (some ⟨a + 2, 0, none⟩), .int .i64 xk, .int .i64 xi] W fun r w' => r = .returned (.int .i64 (ordK s xk xi)) ∧ RgA W w' (a + 2) (fun k => a + 3 ≤ k) (ordS s xk xi) := fun W hW => rorder_ W (a + 2) _ s hW xk xi (by have := hcm.out; omega)
        have hcm5 := Lib.hid (show (ordS s xk xi).cm.length ≤ i + 1 from Nat.le_trans (cm_len _ _ _) (Nat.succ_le_succ hcm.out))
        obtain ⟨R, hR⟩ : ∃ R, ordK s xk xi = R := ⟨_, rfl⟩
        obtain ⟨s5, hs5e⟩ : ∃ s', ordS s xk xi = s' := ⟨_, rfl⟩
        rw [hR, hs5e] at hO1
        rw [hs5e] at hcm5
        have hO2 : ∀ W, Rg W (a + 2) (fun k => a + 3 ≤ k) s → Calls Try.prog 14 #[.pointer (some ⟨a + 2, 0, none⟩), .int .i64 xk, .int .i64 xi] W fun r w' => r = .returned (.int .i64 R) ∧ RgA W w' (a + 2) (fun k => a + 3 ≤ k) s5 := fun W hW => by have := hO2 W hW; rwa [hR, hs5e] at this
        clear hR hs5e
        go_wp2_with fail
        rw [Hw4.out, Hgd.out]
        have hR4d : Rg w4.drew (a + 2) (fun k => a + 3 ≤ k) s := hR4.keep (below_drew (Below.refl _ _))
        clear Hw4 Hgd
        go_region_held3 (fun w' => w'.cell? ⟨gd, 0, none⟩ = some (.int .i64 xk) ∧ w'.cell? ⟨gd, 1, none⟩ = some (.int .i64 xi))
          (first | go_keep | exact ⟨e0, e1⟩ | exact ⟨v0, v1⟩ | exact ⟨g0, g1⟩)
          (first
            | (go_at_call 13
               refine hO1.mono ?_
               rintro r w5 ⟨rfl, hA5, hF5⟩
               have v0 := fu_cell hF5 (show w4.drew.cell? _ = _ from e0) (by simp only; omega)
               have v1 := fu_cell hF5 (show w4.drew.cell? _ = _ from e1) (by simp only; omega)
               have hR5 := hR4d.fu hF5 (fun k hk => by omega) (by omega))
            | (go_at_call 14
               refine (hO2 _ hR5).mono ?_
               rintro r w6 ⟨rfl, hR6, hF6⟩
               have g0 := fu_cell hF6 v0 (by simp only; omega)
               have g1 := fu_cell hF6 v1 (by simp only; omega)))
        have hs4d : w4.heap.size ≤ w5.heap.size := hF5.size
        have hR6 : Rg w6 (a + 2) (fun k => a + 3 ≤ k) s5 := hR6.sub (fun k hk _ => by omega) (by omega)
        have hA6 := hA5.fu hF6 (by omega) (by omega)
        have hB6 : Below a w w6 := ((below_drew hB4).trans (hF5.below (B := a) (by show a ≤ w4.heap.size; omega) (fun j q => by omega))).trans (hF6.below (B := a) (by omega) (fun j q => by omega))
        have hs6 : a + 3 ≤ w6.heap.size := by have := hF6.size; omega
        clear hA4 hR4 hR4d hB4 hs4 e0 e1 e2 hF5 hF6 hA5 hR5 hO1 hO2 v0 v1 g0 hs4d
        have hA5 := hA6
        have hR5 := hR6
        have hB5 := hB6
        clear hA6 hR6 hB6
        obtain ⟨A5, n5, cp5, hX5⟩ := hR5
        obtain ⟨q0, q1, q2⟩ := hX5.cells
        have hI5 := hX5.row.is
        have hcap5 := hX5.row.cap
        have htop5 := hX5.row.top
        obtain ⟨m1, hm1⟩ : ∃ b, cmB s5 xi = b := ⟨_, rfl⟩
        obtain ⟨m2, hm2⟩ : ∃ b, cmB s5 z = b := ⟨_, rfl⟩
        have hC1 : ∀ W, AgX W a s5 → Calls Try.prog 17 #[.pointer (some ⟨a + 1, 0, none⟩), .int .i64 xi] W fun r w' => r = .returned (.bool m1) ∧ Below W.heap.size W w' := fun W hW => hm1 ▸ committed_ W a s5 hW xi hid
        have hC2 : ∀ W, AgX W a s5 → Calls Try.prog 17 #[.pointer (some ⟨a + 1, 0, none⟩), .int .i64 z] W fun r w' => r = .returned (.bool m2) ∧ Below W.heap.size W w' := fun W hW => hm2 ▸ committed_ W a s5 hW z hz
        have hH1 : ∀ W, Is W A5 n5 s5.cm → Calls Try.prog 18 #[.slice A5 n5 cp5, .int .i64 xi] W fun r w' => r = .returned (.bool m1) ∧ W = w' := fun W hW => by
          have := has_ W A5 n5 cp5 s5.cm hW hcap5 htop5 xi
          rwa [show decide (xi ∈ s5.cm) = m1 from hm1] at this
        have hH2 : ∀ W, Is W A5 n5 s5.cm → Calls Try.prog 18 #[.slice A5 n5 cp5, .int .i64 z] W fun r w' => r = .returned (.bool m2) ∧ W = w' := fun W hW => by
          have := has_ W A5 n5 cp5 s5.cm hW hcap5 htop5 z
          rwa [show decide (z ∈ s5.cm) = m2 from hm2] at this
        have HX5 := Lib.hid hX5
        obtain ⟨y0, hy0⟩ : ∃ y, s5.fz = y := ⟨_, rfl⟩
        obtain ⟨y1, hy1⟩ : ∃ y, s5.pr = y := ⟨_, rfl⟩
        have hZ : ∀ W, AgX W a s5 → Calls Try.prog 15 #[.pointer (some ⟨a + 1, 0, none⟩)] W fun r w' => r = .returned (.int .i64 y0) ∧ W = w' := fun W hW => hy0 ▸ frozen_ W a s5 hW
        have hP : ∀ W, AgX W a s5 → Calls Try.prog 16 #[.pointer (some ⟨a + 1, 0, none⟩)] W fun r w' => r = .returned (.int .i64 y1) ∧ W = w' := fun W hW => hy1 ▸ prepared_ W a s5 hW
        rw [hy0] at q0
        rw [hy1] at q1
        have n0 : (y0 != y0) = false := by simp
        have n1 : (y1 != y1) = false := by simp
        have n2 : (m1 != m1) = false := by simp
        have n3 : (m2 != m2) = false := by simp
        have hAd := hA5.drewN 1
        have hId : Is w6.drew A5 n5 s5.cm := hI5
        clear hm1 hm2 hX5 hy0 hy1 hcap5 htop5
        go_wp2_with fail
        refine wp_region_noPanic ?_
        refine wp_region_held_drew (S := (fun w' => w'.cell? ⟨gd, 1, none⟩ = some (.int .i64 xi) ∧ w'.cell? ⟨a + 2, 0, none⟩ = some (.int .i64 y0) ∧ w'.cell? ⟨a + 2, 1, none⟩ = some (.int .i64 y1) ∧ w'.cell? ⟨a + 2, 2, none⟩ = some (.slice A5 n5 cp5))) (by kernel_rfl) ⟨g1, q0, q1, q2⟩ (fun _ => ?_)
        refine wpAnyH_take (i := 0) (oi := _) (v := ?_) rfl (by kernel_rfl) (by kernel_rfl) (by kernel_rfl) (fun _ _ _ h => h) (Or.inl ⟨by kernel_rfl, ?_⟩) ⟨g1, q0, q1, q2⟩ ?_
        rotate_left
        · (rintro w ⟨s1, s2, s3, s4⟩; go_simp; (first | done | rfl))
        try simp only [Act.put, List.getElem_toArray, List.getElem_cons_zero, List.getElem_cons_succ, List.setIfInBounds_toArray, List.set_cons_zero, List.set_cons_succ]
        refine wpAnyH_take (i := 2) (oi := _) (v := ?_) rfl (by kernel_rfl) (by kernel_rfl) (by kernel_rfl) (fun _ _ _ h => h) (Or.inl ⟨by kernel_rfl, ?_⟩) ⟨g1, q0, q1, q2⟩ ?_
        rotate_left
        · (rintro w ⟨s1, s2, s3, s4⟩; go_simp; (first | done | rfl))
        try simp only [Act.put, List.getElem_toArray, List.getElem_cons_zero, List.getElem_cons_succ, List.setIfInBounds_toArray, List.set_cons_zero, List.set_cons_succ]
        refine wpAnyH_take (i := 3) (oi := _) (v := ?_) rfl (by kernel_rfl) (by kernel_rfl) (by kernel_rfl) (fun _ _ _ h => h) (Or.inl ⟨by kernel_rfl, ?_⟩) ⟨g1, q0, q1, q2⟩ ?_
        rotate_left
        · (rintro w ⟨s1, s2, s3, s4⟩; go_simp; (first | done | rfl))
        try simp only [Act.put, List.getElem_toArray, List.getElem_cons_zero, List.getElem_cons_succ, List.setIfInBounds_toArray, List.set_cons_zero, List.set_cons_succ]
        refine wpAnyH_ready (rs := [1]) (by kernel_rfl) (by simp) (AllReadyH.cons (o := _) rfl (fun K hK => ?_) AllReadyH.nil)
        rw [if_pos (by kernel_rfl)]
        refine wp_fn 15 _ _ rfl _ rfl enters_F (hZ _ hAd) ?_
        rintro r w' ⟨rfl, rfl⟩
        refine ⟨_, rfl, ?_⟩
        refine hK.out _ _ ⟨g1, q0, q1, q2⟩ (fun _ => ?_)
        clear hK K
        try simp only [Act.put, List.getElem_toArray, List.getElem_cons_zero, List.getElem_cons_succ, List.setIfInBounds_toArray, List.set_cons_zero, List.set_cons_succ]
        refine wpAnyH_take (i := 4) (oi := _) (v := ?_) rfl (by kernel_rfl) (by kernel_rfl) (by kernel_rfl) (fun _ _ _ h => h) (Or.inl ⟨by kernel_rfl, ?_⟩) ⟨g1, q0, q1, q2⟩ ?_
        rotate_left
        · (rintro w ⟨s1, s2, s3, s4⟩; go_simp; (first | done | rfl))
        try simp only [Act.put, List.getElem_toArray, List.getElem_cons_zero, List.getElem_cons_succ, List.setIfInBounds_toArray, List.set_cons_zero, List.set_cons_succ]
        refine wpAnyH_take (i := 5) (oi := _) (v := ?_) rfl (by kernel_rfl) (by kernel_rfl) (by kernel_rfl) (fun _ _ _ h => h) (Or.inl ⟨by kernel_rfl, ?_⟩) ⟨g1, q0, q1, q2⟩ ?_
        rotate_left
        · (rintro w ⟨s1, s2, s3, s4⟩; go_simp; (first | done | rfl))
        try simp only [Act.put, List.getElem_toArray, List.getElem_cons_zero, List.getElem_cons_succ, List.setIfInBounds_toArray, List.set_cons_zero, List.set_cons_succ]
        refine wpAnyH_take (i := 6) (oi := _) (v := ?_) rfl (by kernel_rfl) (by kernel_rfl) (by kernel_rfl) (fun _ _ _ h => h) (Or.inl ⟨by kernel_rfl, ?_⟩) ⟨g1, q0, q1, q2⟩ ?_
        rotate_left
        · (rintro w ⟨s1, s2, s3, s4⟩; go_simp; (first | done | rfl))
        try simp only [Act.put, List.getElem_toArray, List.getElem_cons_zero, List.getElem_cons_succ, List.setIfInBounds_toArray, List.set_cons_zero, List.set_cons_succ]
        refine wpAnyH_take (i := 8) (oi := _) (v := ?_) rfl (by kernel_rfl) (by kernel_rfl) (by kernel_rfl) (fun _ _ _ h => h) (Or.inl ⟨by kernel_rfl, ?_⟩) ⟨g1, q0, q1, q2⟩ ?_
        rotate_left
        · (rintro w ⟨s1, s2, s3, s4⟩; go_simp; (first | done | rfl))
        try simp only [Act.put, List.getElem_toArray, List.getElem_cons_zero, List.getElem_cons_succ, List.setIfInBounds_toArray, List.set_cons_zero, List.set_cons_succ]
        refine wpAnyH_take (i := 9) (oi := _) (v := ?_) rfl (by kernel_rfl) (by kernel_rfl) (by kernel_rfl) (fun _ _ _ h => h) (Or.inl ⟨by kernel_rfl, ?_⟩) ⟨g1, q0, q1, q2⟩ ?_
        rotate_left
        · (rintro w ⟨s1, s2, s3, s4⟩; go_simp; (first | done | rfl))
        try simp only [Act.put, List.getElem_toArray, List.getElem_cons_zero, List.getElem_cons_succ, List.setIfInBounds_toArray, List.set_cons_zero, List.set_cons_succ]
        refine wpAnyH_ready (rs := [7]) (by kernel_rfl) (by simp) (AllReadyH.cons (o := _) rfl (fun K hK => ?_) AllReadyH.nil)
        rw [if_pos (by kernel_rfl)]
        refine wp_fn 16 _ _ rfl _ rfl enters_P (hP _ hAd) ?_
        rintro r w' ⟨rfl, rfl⟩
        refine ⟨_, rfl, ?_⟩
        refine hK.out _ _ ⟨g1, q0, q1, q2⟩ (fun _ => ?_)
        clear hK K
        try simp only [Act.put, List.getElem_toArray, List.getElem_cons_zero, List.getElem_cons_succ, List.setIfInBounds_toArray, List.set_cons_zero, List.set_cons_succ]
        refine wpAnyH_take (i := 10) (oi := _) (v := ?_) rfl (by kernel_rfl) (by kernel_rfl) (by kernel_rfl) (fun _ _ _ h => h) (Or.inl ⟨by kernel_rfl, ?_⟩) ⟨g1, q0, q1, q2⟩ ?_
        rotate_left
        · (rintro w ⟨s1, s2, s3, s4⟩; go_simp; (first | done | rfl))
        try simp only [Act.put, List.getElem_toArray, List.getElem_cons_zero, List.getElem_cons_succ, List.setIfInBounds_toArray, List.set_cons_zero, List.set_cons_succ]
        refine wpAnyH_take (i := 11) (oi := _) (v := ?_) rfl (by kernel_rfl) (by kernel_rfl) (by kernel_rfl) (fun _ _ _ h => h) (Or.inl ⟨by kernel_rfl, ?_⟩) ⟨g1, q0, q1, q2⟩ ?_
        rotate_left
        · (rintro w ⟨s1, s2, s3, s4⟩; go_simp; (first | done | rfl))
        try simp only [Act.put, List.getElem_toArray, List.getElem_cons_zero, List.getElem_cons_succ, List.setIfInBounds_toArray, List.set_cons_zero, List.set_cons_succ]
        refine wpAnyH_take (i := 12) (oi := _) (v := ?_) rfl (by kernel_rfl) (by kernel_rfl) (by kernel_rfl) (fun _ _ _ h => h) (Or.inl ⟨by kernel_rfl, ?_⟩) ⟨g1, q0, q1, q2⟩ ?_
        rotate_left
        · (rintro w ⟨s1, s2, s3, s4⟩; go_simp; (first | done | rfl))
        try simp only [Act.put, List.getElem_toArray, List.getElem_cons_zero, List.getElem_cons_succ, List.setIfInBounds_toArray, List.set_cons_zero, List.set_cons_succ]
        refine wpAnyH_take (i := 13) (oi := _) (v := ?_) rfl (by kernel_rfl) (by kernel_rfl) (by kernel_rfl) (fun _ _ _ h => h) (Or.inl ⟨by kernel_rfl, ?_⟩) ⟨g1, q0, q1, q2⟩ ?_
        rotate_left
        · (rintro w ⟨s1, s2, s3, s4⟩; go_simp; (first | done | rfl))
        try simp only [Act.put, List.getElem_toArray, List.getElem_cons_zero, List.getElem_cons_succ, List.setIfInBounds_toArray, List.set_cons_zero, List.set_cons_succ]
        refine wpAnyH_take (i := 14) (oi := _) (v := ?_) rfl (by kernel_rfl) (by kernel_rfl) (by kernel_rfl) (fun _ _ _ h => h) (Or.inl ⟨by kernel_rfl, ?_⟩) ⟨g1, q0, q1, q2⟩ ?_
        rotate_left
        · (rintro w ⟨s1, s2, s3, s4⟩; go_simp; (first | done | rfl))
        try simp only [Act.put, List.getElem_toArray, List.getElem_cons_zero, List.getElem_cons_succ, List.setIfInBounds_toArray, List.set_cons_zero, List.set_cons_succ]
        refine wpAnyH_take (i := 15) (oi := _) (v := ?_) rfl (by kernel_rfl) (by kernel_rfl) (by kernel_rfl) (fun _ _ _ h => h) (Or.inl ⟨by kernel_rfl, ?_⟩) ⟨g1, q0, q1, q2⟩ ?_
        rotate_left
        · (rintro w ⟨s1, s2, s3, s4⟩; go_simp; (first | done | rfl))
        try simp only [Act.put, List.getElem_toArray, List.getElem_cons_zero, List.getElem_cons_succ, List.setIfInBounds_toArray, List.set_cons_zero, List.set_cons_succ]
        refine wpAnyH_take (i := 17) (oi := _) (v := ?_) rfl (by kernel_rfl) (by kernel_rfl) (by kernel_rfl) (fun _ _ _ h => h) (Or.inl ⟨by kernel_rfl, ?_⟩) ⟨g1, q0, q1, q2⟩ ?_
        rotate_left
        · (rintro w ⟨s1, s2, s3, s4⟩; go_simp; (first | done | rfl))
        try simp only [Act.put, List.getElem_toArray, List.getElem_cons_zero, List.getElem_cons_succ, List.setIfInBounds_toArray, List.set_cons_zero, List.set_cons_succ]
        refine wpAnyH_take (i := 18) (oi := _) (v := ?_) rfl (by kernel_rfl) (by kernel_rfl) (by kernel_rfl) (fun _ _ _ h => h) (Or.inl ⟨by kernel_rfl, ?_⟩) ⟨g1, q0, q1, q2⟩ ?_
        rotate_left
        · (rintro w ⟨s1, s2, s3, s4⟩; go_simp; (first | done | rfl))
        try simp only [Act.put, List.getElem_toArray, List.getElem_cons_zero, List.getElem_cons_succ, List.setIfInBounds_toArray, List.set_cons_zero, List.set_cons_succ]
        refine wpAnyH_take (i := 19) (oi := _) (v := ?_) rfl (by kernel_rfl) (by kernel_rfl) (by kernel_rfl) (fun _ _ _ h => h) (Or.inl ⟨by kernel_rfl, ?_⟩) ⟨g1, q0, q1, q2⟩ ?_
        rotate_left
        · (rintro w ⟨s1, s2, s3, s4⟩; go_simp; (first | done | rfl))
        try simp only [Act.put, List.getElem_toArray, List.getElem_cons_zero, List.getElem_cons_succ, List.setIfInBounds_toArray, List.set_cons_zero, List.set_cons_succ]
        refine wpAnyH_take (i := 20) (oi := _) (v := ?_) rfl (by kernel_rfl) (by kernel_rfl) (by kernel_rfl) (fun _ _ _ h => h) (Or.inl ⟨by kernel_rfl, ?_⟩) ⟨g1, q0, q1, q2⟩ ?_
        rotate_left
        · (rintro w ⟨s1, s2, s3, s4⟩; go_simp; (first | done | rfl))
        try simp only [Act.put, List.getElem_toArray, List.getElem_cons_zero, List.getElem_cons_succ, List.setIfInBounds_toArray, List.set_cons_zero, List.set_cons_succ]
        refine wpAnyH_ready (rs := [16]) (by kernel_rfl) (by simp) (AllReadyH.cons (o := _) rfl (fun K hK => ?_) AllReadyH.nil)
        rw [if_pos (by kernel_rfl)]
        refine wp_fn 17 _ _ rfl _ rfl enters_C (hC1 _ hAd) ?_
        rintro r wA ⟨rfl, hbA⟩
        have hAA := hAd.keep hbA
        have hIA := hId.below hbA
        have r1 := (hbA.cell (cell_lt (show w6.drew.cell? _ = _ from g1))).trans g1
        have r2 := (hbA.cell (cell_lt (show w6.drew.cell? _ = _ from q0))).trans q0
        have r3 := (hbA.cell (cell_lt (show w6.drew.cell? _ = _ from q1))).trans q1
        have r4 := (hbA.cell (cell_lt (show w6.drew.cell? _ = _ from q2))).trans q2
        refine ⟨_, rfl, ?_⟩
        refine hK.out _ _ ⟨r1, r2, r3, r4⟩ (fun _ => ?_)
        clear hK K
        try simp only [Act.put, List.getElem_toArray, List.getElem_cons_zero, List.getElem_cons_succ, List.setIfInBounds_toArray, List.set_cons_zero, List.set_cons_succ]
        refine wpAnyH_ready (rs := [21]) (by kernel_rfl) (by simp) (AllReadyH.cons (o := _) rfl (fun K hK => ?_) AllReadyH.nil)
        rw [if_pos (by kernel_rfl)]
        refine wp_fn 18 _ _ rfl _ rfl enters_H (hH1 _ hIA) ?_
        rintro r w' ⟨rfl, rfl⟩
        refine ⟨_, rfl, ?_⟩
        refine hK.out _ _ ⟨r1, r2, r3, r4⟩ (fun _ => ?_)
        clear hK K
        try simp only [Act.put, List.getElem_toArray, List.getElem_cons_zero, List.getElem_cons_succ, List.setIfInBounds_toArray, List.set_cons_zero, List.set_cons_succ]
        refine wpAnyH_take (i := 22) (oi := _) (v := ?_) rfl (by kernel_rfl) (by kernel_rfl) (by kernel_rfl) (fun _ _ _ h => h) (Or.inl ⟨by kernel_rfl, ?_⟩) ⟨r1, r2, r3, r4⟩ ?_
        rotate_left
        · (rintro w ⟨s1, s2, s3, s4⟩; go_simp; (first | done | rfl))
        try simp only [Act.put, List.getElem_toArray, List.getElem_cons_zero, List.getElem_cons_succ, List.setIfInBounds_toArray, List.set_cons_zero, List.set_cons_succ]
        refine wpAnyH_take (i := 23) (oi := _) (v := ?_) rfl (by kernel_rfl) (by kernel_rfl) (by kernel_rfl) (fun _ _ _ h => h) (Or.inl ⟨by kernel_rfl, ?_⟩) ⟨r1, r2, r3, r4⟩ ?_
        rotate_left
        · (rintro w ⟨s1, s2, s3, s4⟩; go_simp; (first | done | rfl))
        try simp only [Act.put, List.getElem_toArray, List.getElem_cons_zero, List.getElem_cons_succ, List.setIfInBounds_toArray, List.set_cons_zero, List.set_cons_succ]
        refine wpAnyH_take (i := 24) (oi := _) (v := ?_) rfl (by kernel_rfl) (by kernel_rfl) (by kernel_rfl) (fun _ _ _ h => h) (Or.inl ⟨by kernel_rfl, ?_⟩) ⟨r1, r2, r3, r4⟩ ?_
        rotate_left
        · (rintro w ⟨s1, s2, s3, s4⟩; go_simp; (first | done | rfl))
        try simp only [Act.put, List.getElem_toArray, List.getElem_cons_zero, List.getElem_cons_succ, List.setIfInBounds_toArray, List.set_cons_zero, List.set_cons_succ]
        refine wpAnyH_take (i := 25) (oi := _) (v := ?_) rfl (by kernel_rfl) (by kernel_rfl) (by kernel_rfl) (fun _ _ _ h => h) (Or.inl ⟨by kernel_rfl, ?_⟩) ⟨r1, r2, r3, r4⟩ ?_
        rotate_left
        · (rintro w ⟨s1, s2, s3, s4⟩; go_simp; (first | done | rfl))
        try simp only [Act.put, List.getElem_toArray, List.getElem_cons_zero, List.getElem_cons_succ, List.setIfInBounds_toArray, List.set_cons_zero, List.set_cons_succ]
        refine wpAnyH_take (i := 26) (oi := _) (v := ?_) rfl (by kernel_rfl) (by kernel_rfl) (by kernel_rfl) (fun _ _ _ h => h) (Or.inl ⟨by kernel_rfl, ?_⟩) ⟨r1, r2, r3, r4⟩ ?_
        rotate_left
        · (rintro w ⟨s1, s2, s3, s4⟩; go_simp; (first | done | rfl))
        try simp only [Act.put, List.getElem_toArray, List.getElem_cons_zero, List.getElem_cons_succ, List.setIfInBounds_toArray, List.set_cons_zero, List.set_cons_succ]
        refine wpAnyH_take (i := 28) (oi := _) (v := ?_) rfl (by kernel_rfl) (by kernel_rfl) (by kernel_rfl) (fun _ _ _ h => h) (Or.inl ⟨by kernel_rfl, ?_⟩) ⟨r1, r2, r3, r4⟩ ?_
        rotate_left
        · (rintro w ⟨s1, s2, s3, s4⟩; go_simp; (first | done | rfl))
        try simp only [Act.put, List.getElem_toArray, List.getElem_cons_zero, List.getElem_cons_succ, List.setIfInBounds_toArray, List.set_cons_zero, List.set_cons_succ]
        refine wpAnyH_take (i := 29) (oi := _) (v := ?_) rfl (by kernel_rfl) (by kernel_rfl) (by kernel_rfl) (fun _ _ _ h => h) (Or.inl ⟨by kernel_rfl, ?_⟩) ⟨r1, r2, r3, r4⟩ ?_
        rotate_left
        · (rintro w ⟨s1, s2, s3, s4⟩; go_simp; (first | done | rfl))
        try simp only [Act.put, List.getElem_toArray, List.getElem_cons_zero, List.getElem_cons_succ, List.setIfInBounds_toArray, List.set_cons_zero, List.set_cons_succ]
        refine wpAnyH_take (i := 30) (oi := _) (v := ?_) rfl (by kernel_rfl) (by kernel_rfl) (by kernel_rfl) (fun _ _ _ h => h) (Or.inl ⟨by kernel_rfl, ?_⟩) ⟨r1, r2, r3, r4⟩ ?_
        rotate_left
        · (rintro w ⟨s1, s2, s3, s4⟩; go_simp; (first | done | rfl))
        try simp only [Act.put, List.getElem_toArray, List.getElem_cons_zero, List.getElem_cons_succ, List.setIfInBounds_toArray, List.set_cons_zero, List.set_cons_succ]
        refine wpAnyH_ready (rs := [27]) (by kernel_rfl) (by simp) (AllReadyH.cons (o := _) rfl (fun K hK => ?_) AllReadyH.nil)
        rw [if_pos (by kernel_rfl)]
        refine wp_fn 17 _ _ rfl _ rfl enters_C (hC2 _ hAA) ?_
        rintro r wB ⟨rfl, hbB⟩
        have hIB := hIA.below hbB
        have u1 := (hbB.cell (cell_lt r1)).trans r1
        have u2 := (hbB.cell (cell_lt r2)).trans r2
        have u3 := (hbB.cell (cell_lt r3)).trans r3
        have u4 := (hbB.cell (cell_lt r4)).trans r4
        refine ⟨_, rfl, ?_⟩
        refine hK.out _ _ ⟨u1, u2, u3, u4⟩ (fun _ => ?_)
        clear hK K
        try simp only [Act.put, List.getElem_toArray, List.getElem_cons_zero, List.getElem_cons_succ, List.setIfInBounds_toArray, List.set_cons_zero, List.set_cons_succ]
        refine wpAnyH_ready (rs := [31]) (by kernel_rfl) (by simp) (AllReadyH.cons (o := _) rfl (fun K hK => ?_) AllReadyH.nil)
        rw [if_pos (by kernel_rfl)]
        refine wp_fn 18 _ _ rfl _ rfl enters_H (hH2 _ hIB) ?_
        rintro r w' ⟨rfl, rfl⟩
        refine ⟨_, rfl, ?_⟩
        refine hK.out _ _ ⟨u1, u2, u3, u4⟩ (fun _ => ?_)
        clear hK K
        try simp only [Act.put, List.getElem_toArray, List.getElem_cons_zero, List.getElem_cons_succ, List.setIfInBounds_toArray, List.set_cons_zero, List.set_cons_succ]
        refine wpAnyH_take (i := 32) (oi := _) (v := ?_) rfl (by kernel_rfl) (by kernel_rfl) (by kernel_rfl) (fun _ _ _ h => h) (Or.inl ⟨by kernel_rfl, ?_⟩) ⟨u1, u2, u3, u4⟩ ?_
        rotate_left
        · (rintro w ⟨s1, s2, s3, s4⟩; go_simp; (first | done | rfl))
        try simp only [Act.put, List.getElem_toArray, List.getElem_cons_zero, List.getElem_cons_succ, List.setIfInBounds_toArray, List.set_cons_zero, List.set_cons_succ]
        refine wpAnyH_take (i := 33) (oi := _) (v := ?_) rfl (by kernel_rfl) (by kernel_rfl) (by kernel_rfl) (fun _ _ _ h => h) (Or.inl ⟨by kernel_rfl, ?_⟩) ⟨u1, u2, u3, u4⟩ ?_
        rotate_left
        · (rintro w ⟨s1, s2, s3, s4⟩; go_simp; (first | done | rfl))
        try simp only [Act.put, List.getElem_toArray, List.getElem_cons_zero, List.getElem_cons_succ, List.setIfInBounds_toArray, List.set_cons_zero, List.set_cons_succ]
        refine wpAnyH_done (by kernel_rfl) ?_ _
        refine NoPanic.normal ?_
        have hbAB : Below w6.heap.size w6 wB := ((below_drew (Below.refl _ _)).trans hbA).trans (hbB.mono hbA.size)
        have hR7 : Rg wB (a + 2) (fun k => a + 3 ≤ k) s5 := Rg.keep ⟨A5, n5, cp5, HX5.out⟩ hbAB
        have hA7 := hA5.keep hbAB
        have hB7 := hB5.trans (hbAB.mono (by omega))
        have hs7 : a + 3 ≤ wB.heap.size := by have := hbAB.size; omega
        clear hA5 hB5 hC1 hC2 hH1 hH2 hZ hP hAd hId hI5 g1 q0 q1 q2 d0 d1 d2 hAA hIA hIB r1 r2 r3 r4 u1 u2 u3 u4 hbA hbB hbAB
        go_wp2
        go_roundw
        case rel => exact ⟨i + 1, s5, by omega, by go_num, hA7, hR7, hB7, hs7, hcm5⟩
        case measure => simp [intOf]; omega
    · have he : i = n := by omega
      subst he
      have hil : ¬ (i : Int) < (i : Int) := by omega
      clear hA hR
      go_wp2
      go_ret
      exact ⟨rfl, by rw [Ha.out]; exact hB⟩
end
end Bar
open Bar

set_option maxRecDepth 100000 in
theorem barrierAgents_lifted (os : Os) (started : os.Started) (H : Type) (enc : TypeId × Value → H) :
    ReturnsInHanded {} Try.checked os 3 .any (Rows.barrierAgentsSpec.pre6 enc Try.prog Try.f3 Rows.barrierAgentsRow.domain false) (Rows.barrierAgentsSpec.post enc Try.prog Try.f3 false true false false) := by
  refine law_lifted (C := Try.checked) (tb := 4) own_ started (by kernel_rfl) Try.func3
    (ChangeSpec.witness6 (enc := enc) (C := Try.checked) false ⟨#[], #[.slice none 0 0, .int .i64 0], []⟩ 8 (by kernel_rfl) (by kernel_rfl) (by kernel_rfl) (by kernel_rfl))
    rfl rfl Try.underlying4 laidOut_ (by kernel_rfl) (fun ds h => by match ds, h with | [_, _], _ => rfl) ?_
  intro W base args ds p hval0 hA0 _ hsz0
  have hval : ∀ (j : Nat) t v, Try.f3.params[j]? = some t → args[j]? = some v → Value.okWide Try.prog W .any base t v := hval0
  have hA : DataW.TrodAll enc Try.prog W 0 (fun _ => true) true Try.f3.params.toList args.toList ds p := hA0
  have hsz : (DataW.weightsEach Try.prog Try.f3.params.toList ds).all (· ≤ reachBytes) = true := hsz0
  clear hval0 hA0 hsz0
  rw [Try.params3] at hA hval hsz
  obtain ⟨v0, v1, d0, d1, p0, p1, rfl, rfl, rfl, h0, h1⟩ := trodAll_two hA
  obtain ⟨A0, n0, c0, xs0, rfl, r0, b0⟩ := arg_slice ops_asks Try.underlying22 (hval 0 _ v0 rfl rfl) h0 (weight_at hsz (j := 0) rfl rfl)
  obtain ⟨z1, rfl, hz1⟩ := arg_int _ _ Try.underlying3 (hval 1 _ v1 rfl rfl) h1 wf_i64
  exact by
    obtain ⟨ha, hnc, hc⟩ := asks_of r0
    exact agents_walk W A0 n0 c0 _ ha hnc hc z1 hz1

/-- BarrierAgents, for every input: the statement as it was given. -/
theorem barrierAgents_holds : Rows.BarrierAgentsSaid :=
  OpenClaim.holds_of_wide 3 Try.f3 rfl rfl rfl rfl rfl rfl rfl ⟨rfl, rfl, rfl, rfl, rfl⟩ rfl rfl rfl rfl rfl (by kernel_rfl) Try.func3 (by kernel_rfl)
    (of_decide_eq_true (by kernel_rfl)) (by unfold Func.isWrapper; first | (rw [if_pos (by decide +kernel)]; kernel_rfl) | (rw [if_neg (by decide +kernel)]; exact ⟨rfl, rfl⟩))
    (fun os started H enc _ => barrierAgents_lifted os started H enc)
end Go.Proofs.Ytpjbeodnalgkfaa
