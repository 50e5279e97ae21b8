/- Layer 17: a coordinator answers every call as the document says (BarrierCoords). No condition. -/
import Derived.Test.YtpjbeodnalgkfaaBarAr
import Derived.Test.YtpjbeodnalgkfaaBarRl
set_option linter.all false
namespace Go.Proofs.Ytpjbeodnalgkfaa
open Go.ChangeShapes Go.WideShapes Go.ChangeAt Go.RowKit
namespace Bar
theorem mod5 {kd r : Nat} (h : kd % 5 = r) (j : Int) : ((kd : Int) % 5 == j) = decide (j = (r : Int)) := by
  have e : (kd : Int) % 5 = (r : Int) := by omega
  rw [e]
  by_cases q : j = (r : Int)
  · subst q; simp
  · rw [decide_eq_false q]; simp; exact fun e => q e.symm
theorem enters_cs (vs : Array Value) (w : World) : (callFunc 33 vs).run Try.prog w = .ok (.enter 33 vs) w := by go_simp
theorem enters_rs (vs : Array Value) (w : World) : (callFunc 34 vs).run Try.prog w = .ok (.enter 34 vs) w := by go_simp
section
variable (w : World)
set_option maxRecDepth 100000 in
set_option maxHeartbeats 4000000 in
theorem coords_bad (z : Int) (hz : z < 1 ∨ 16 < z) (A : Option Addr) (n c : Nat) (x : Int) : Calls Try.prog 4 #[.int .i64 z, .slice A n c, .int .i64 x] w fun r w' => r = .returned (.bool true) ∧ Below w.heap.size w w' := by
  go_enter Try.func4, Try.ntmps4
  go_wp2_with fail
  refine (cnew_no w z hz).mono ?_
  rintro r w1 ⟨rfl, rfl⟩
  go_wp2_with fail
  refine (rnew_no w z hz).mono ?_
  rintro r w2 ⟨rfl, hb2⟩
  have hb3 : Below w2.heap.size w2 (w2.alloc (.cells #[.slice none 0 0, .int .i64 0, .int .i64 0, .slice none 0 0, .slice none 0 0] 43)) := (Below.refl _ _).alloc (Nat.le_refl _) _
  have ha := fun W => alive_ W
  go_wp2_with fail
  refine (ha _).mono ?_
  rintro r w4 ⟨rfl, hb4⟩
  go_wp2
  go_ret
  have hs2 := hb2.size
  have hs3 := hb3.size
  exact ⟨rfl, (hb2.trans (hb3.mono hs2)).trans (hb4.mono (by omega))⟩
set_option maxRecDepth 100000 in
set_option maxHeartbeats 4000000 in
theorem coords_walk (na : Nat) (h1 : 1 ≤ na) (h2 : na ≤ 16) (A : Option Addr) (n c : Nat) (l : List Calld) (h : CallL w A n l) (hnc : n ≤ c) (hc : c * 32 ≤ 140737488351232) (x : Int) (hx : I64 x) :
    Calls Try.prog 4 #[.int .i64 (na : Int), .slice A n c, .int .i64 x] w fun r w' => r = .returned (.bool true) ∧ Below w.heap.size w w' := by
  have HL := Lib.hid h
  have hn : n ≤ 4398046510976 := by omega
  clear h
  go_enter Try.func4, Try.ntmps4
  go_wp2_with fail
  refine (cnew_ w na h1 h2).mono ?_
  rintro r w1 ⟨rfl, hC1, hb1, hs1⟩
  obtain ⟨a, ha⟩ : ∃ a, w.heap.size = a := ⟨_, rfl⟩
  have Ha := Lib.hid ha
  rw [ha] at hC1 hb1 hs1 ⊢
  go_wp2_with fail
  refine (rnew_ w1 na h1 h2).mono ?_
  rintro r w2 ⟨g, rfl, hg2, hk2, hb2⟩
  have hC2 : Cd w2 a (fun _ => False) (co0 na) := hC1.fu (S := fun _ => False) (Fu.ofBelow hb2) (fun _ _ e => e) (fun e => e) (fun e => e)
  have hB2 := hb1.trans (hb2.mono (by omega))
  have hs2 := hb2.size
  have hgl := hk2.lt
  have hk4 := Blk.new w2 43 #[.slice (some ⟨g, 0, none⟩) na na, .int .i64 0, .int .i64 0, .slice none 0 0, .slice none 0 0] rfl
  have hb3 : Below w2.heap.size w2 (w2.alloc (.cells #[.slice (some ⟨g, 0, none⟩) na na, .int .i64 0, .int .i64 0, .slice none 0 0, .slice none 0 0] 43)) := (Below.refl _ _).alloc (Nat.le_refl _) _
  go_wp2_with fail
  obtain ⟨b, hb⟩ : ∃ b, w2.heap.size = b := ⟨_, rfl⟩
  obtain ⟨w4, hw4⟩ : ∃ w4, w2.alloc (.cells #[.slice (some ⟨g, 0, none⟩) na na, .int .i64 0, .int .i64 0, .slice none 0 0, .slice none 0 0] 43) = w4 := ⟨_, rfl⟩
  rw [hw4] at hk4 hb3 ⊢
  have hF4 := Fu.ofBelow (S := fun k => k = b) hb3
  rw [hb] at hk4 hgl hs2 ⊢
  have Hb := Lib.hid hb
  clear hb hw4 ha hC1 hb1
  have hC4 : Cd w4 a (fun _ => False) (co0 na) := hC2.fu hF4 (fun _ q => q.elim) (by omega) (by omega)
  have hB4 := hB2.trans (hF4.below (B := a) (by rw [Hb.out]; omega) (fun j e => by omega))
  have hT4 : Tw w4 a b (fun _ => False) (co0 na) (co0 na) := by
    refine ⟨fun _ => False, fun k => k = g, hC4, ⟨g, none, 0, 0, none, 0, 0, ⟨?_, ?_, ⟨Is.nil, Nat.le_refl _, by omega, fun a e => (by cases e)⟩, ⟨Is.nil, Nat.le_refl _, by omega, fun a e => (by cases e)⟩, fun _ => rfl, fun _ => rfl, rfl, fun a e => (by cases e), fun a e => (by cases e), fun q => by omega⟩⟩, fun k q => q.elim, fun k hk => by omega, by omega, fun k q => q.elim⟩
    · simpa [co0] using hk4
    · exact blk_fu hk2 hF4 (by omega)
  clear hk2 hb2 hC2 hB2 hk4 hF4 hC4 hb3
  refine (alive_ w4).mono ?_
  rintro r w5 ⟨rfl, hb5⟩
  have hT5 := hT4.keep hb5
  have hB5 := hB4.trans (hb5.mono (by have := hT4.size; omega))
  clear hT4 hB4 hb5
  go_wp2_with fail
  go_loopw [44] (fun iv wr => ∃ (i : Nat) (s : Co) (P : Nat → Prop), i ≤ n ∧ iv = .int .i64 (i : Int) ∧ Tw wr a b P s s ∧ Below a w wr) (fun iv _ => n - (intOf iv).toNat)
  case atStart => exact ⟨0, co0 na, _, Nat.zero_le _, rfl, hT5, hB5⟩
  case round =>
    obtain ⟨i, s, P, hi, rfl, hT, hB⟩ := hrel
    clear hT5 hB5
    by_cases hlt : i < n
    · have hil : (i : Int) < (n : Int) := by omega
      have hi0 : (0 : Int) ≤ (i : Int) := by omega
      obtain ⟨ba, oa, y, rfl, hl, hF, hcs⟩ := HL.out.at_ i hlt
      obtain ⟨xk, xa, xn, xi⟩ := y
      have hBw : Below w.heap.size w wr := by rw [Ha.out]; exact hB
      have d0 : wr.cell? ⟨ba, oa + i * 4, none⟩ = some (.int .u8 (xk : Int)) := (hBw.cell (cell_lt (hcs 0 _ rfl))).trans (hcs 0 _ rfl)
      have d1 : wr.cell? ⟨ba, oa + i * 4 + 1, none⟩ = some (.int .i64 xa) := (hBw.cell (cell_lt (hcs 1 _ rfl))).trans (hcs 1 _ rfl)
      have d2 : wr.cell? ⟨ba, oa + i * 4 + 2, none⟩ = some (.int .i64 xn) := (hBw.cell (cell_lt (hcs 2 _ rfl))).trans (hcs 2 _ rfl)
      have d3 : wr.cell? ⟨ba, oa + i * 4 + 3, none⟩ = some (.int .i64 xi) := (hBw.cell (cell_lt (hcs 3 _ rfl))).trans (hcs 3 _ rfl)
      have hba : Below wr.heap.size wr (wr.alloc (.cells (calla ⟨xk, xa, xn, xi⟩) 47)) := (Below.refl _ _).alloc (Nat.le_refl _) _
      have hbd : Blk (wr.alloc (.cells (calla ⟨xk, xa, xn, xi⟩) 47)) wr.heap.size 47 (calla ⟨xk, xa, xn, xi⟩) := Blk.new wr _ _ rfl
      have hT4 := hT.fresh hba (by simp)
      have hs := hT.size
      have hB4 := hB.trans (hba.mono (by omega))
      have hFew := Lib.hid hT.few
      have hOk := Lib.hid hT.ok
      have hid : I64 xi := hF.id
      obtain ⟨gd, hgd⟩ : ∃ g, wr.heap.size = g := ⟨_, rfl⟩
      have Hgd := Lib.hid hgd
      obtain ⟨w4, hw4⟩ : ∃ w4, wr.alloc (.cells (calla ⟨xk, xa, xn, xi⟩) 47) = w4 := ⟨_, rfl⟩
      have Hw4 := Lib.hid hw4
      have hs4 : a ≤ w4.heap.size := by rw [← hw4]; simp; omega
      rw [hw4] at hbd hT4 hB4
      rw [hgd] at hbd hT4
      have e0 : w4.cell? ⟨gd, 0, none⟩ = some (.int .u8 (xk : Int)) := hbd.cell (j := 0) rfl
      have e1 : w4.cell? ⟨gd, 1, none⟩ = some (.int .i64 xa) := hbd.cell (j := 1) rfl
      have e2 : w4.cell? ⟨gd, 2, none⟩ = some (.int .i64 xn) := hbd.cell (j := 2) rfl
      have e3 : w4.cell? ⟨gd, 3, none⟩ = some (.int .i64 xi) := hbd.cell (j := 3) rfl
      clear hT hB hba hw4 hgd hcs hF hBw hl hbd hs
      rcases (show xk % 5 = 0 ∨ xk % 5 = 1 ∨ xk % 5 = 2 ∨ xk % 5 = 3 ∨ xk % 5 = 4 by omega) with cq | cq | cq | cq | cq
      · have t0 : ((xk : Int) % 5 == 0) = true := by rw [mod5 cq]; decide
        clear cq
        have d1 : (w4.drew).cell? ⟨gd, 1, none⟩ = some (.int .i64 xa) := e1
        have d2 : (w4.drew).cell? ⟨gd, 2, none⟩ = some (.int .i64 xn) := e2
        have d3 : (w4.drew).cell? ⟨gd, 3, none⟩ = some (.int .i64 xi) := e3
        have hT4d : Tw w4.drew a b (fun k => k = gd) s s := hT4.keep (below_drew (Below.refl _ _))
        have hB4d : Below a w w4.drew := below_drew hB4
        obtain ⟨s6, hs6⟩ : ∃ q, begS s xi = q := ⟨_, rfl⟩
        have hO1 := tw_c hT4d (fun Uc hC => begin_ w4.drew a Uc s hC xi hid)
        have hO2 : ∀ W, Tw W a b (fun k => k = gd) (begS s xi) s → _ := fun W hT => tw_r hT (fun Ur hR => rbegin_ W b Ur s hR hFew.out xi)
        obtain ⟨R, hR0⟩ : ∃ q, begE s xi = q := ⟨_, rfl⟩
        rw [hR0] at hO1
        simp only [hR0] at hO2
        have nR : (R == R) = true := by simp
        clear hR0
        rw [hs6] at hO1
        simp only [hs6] at hO2
        clear hs6
        go_wp2_with fail
        rw [Hw4.out, Hgd.out]
        clear Hw4 Hgd hT4
        go_region_held3 (fun w' => w'.cell? ⟨gd, 3, none⟩ = some (.int .i64 xi))
          (first | go_keep | exact e3 | exact u3 | exact v3)
          (first
            | (go_at_call 21
               refine hO1.mono ?_
               rintro r w5 ⟨rfl, hT5, hK5, hB5⟩
               have u3 := hK5 _ _ rfl d3)
            | (go_at_call 22
               refine (hO2 _ hT5).mono ?_
               rintro r w6 ⟨rfl, hT6, hK6, hB6⟩
               have v3 := hK6 _ _ rfl u3))
        have hB6 : Below a w w6 := (hB4d.trans hB5).trans hB6
        clear hO1 hO2 hT5 hK5 hK6 hB5 hB4 hB4d
        obtain ⟨Uc6, Ur6, hX6⟩ := hT6
        have hC6 := hX6.c
        have hR6 := hX6.r
        have hT6 : Tw w6 a b (fun k => k = gd) s6 s6 := ⟨Uc6, Ur6, hX6⟩
        have hph6 := (phase_ w6 a Uc6 s6 hC6)
        clear hX6
        go_wp2_with fail
        refine hph6.mono ?_
        rintro r w7 ⟨rfl, k7, rfl⟩
        have hC7 : Cd (w6.drewN k7) a Uc6 s6 := hC6.fu (S := fun _ => False) ((Fu.refl _ _).drewN _) (fun _ _ e => e) (fun e => e) (fun e => e)
        have hR7 : Rc (w6.drewN k7) b Ur6 s6 := hR6.drewN _
        have hT7 : Tw (w6.drewN k7) a b (fun k => k = gd) s6 s6 := hT6.keep (below_drewN (Below.refl _ _) _)
        have hB7 : Below a w (w6.drewN k7) := below_drewN hB6 _
        have y3 : (w6.drewN k7).cell? ⟨gd, 3, none⟩ = some (.int .i64 xi) := v3
        clear hC6 hR6 hT6 hB6 hph6
        generalize w6.drewN k7 = w7 at *
        obtain ⟨m1, hm1⟩ : ∃ q, stC s6 xi = q := ⟨_, rfl⟩
        obtain ⟨m2, hm2⟩ : ∃ q, stC s6 x = q := ⟨_, rfl⟩
        have hS1 : Calls Try.prog 33 #[.pointer (some ⟨a + 1, 0, none⟩), .int .i64 xi] w7.drew fun r w' => r = .returned (.int .i64 m1) ∧ w7.drew = w' := hm1 ▸ state_ w7.drew a Uc6 s6 (hC7.fu (S := fun _ => False) ((Fu.refl _ _).drew) (fun _ _ e => e) (fun e => e) (fun e => e)) xi hid
        have hS2 : Calls Try.prog 33 #[.pointer (some ⟨a + 1, 0, none⟩), .int .i64 x] w7.drew fun r w' => r = .returned (.int .i64 m2) ∧ w7.drew = w' := hm2 ▸ state_ w7.drew a Uc6 s6 (hC7.fu (S := fun _ => False) ((Fu.refl _ _).drew) (fun _ _ e => e) (fun e => e) (fun e => e)) x hx
        have hD1 : Calls Try.prog 34 #[.pointer (some ⟨b, 0, none⟩), .int .i64 xi] w7.drew fun r w' => r = .returned (.int .i64 m1) ∧ w7.drew = w' := hm1 ▸ rstate_ w7.drew b Ur6 s6 (hR7.keep (below_drew (Below.refl _ _))) xi
        have hD2 : Calls Try.prog 34 #[.pointer (some ⟨b, 0, none⟩), .int .i64 x] w7.drew fun r w' => r = .returned (.int .i64 m2) ∧ w7.drew = w' := hm2 ▸ rstate_ w7.drew b Ur6 s6 (hR7.keep (below_drew (Below.refl _ _))) x
        obtain ⟨g7, A1, k1, c1, A2, k2, c2, hX7⟩ := hR7
        obtain ⟨-, o1, o2, -, -⟩ := hX7.cells
        obtain ⟨y1, hy1⟩ : ∃ q, s6.ph = q := ⟨_, rfl⟩
        obtain ⟨y2, hy2⟩ : ∃ q, s6.id = q := ⟨_, rfl⟩
        rw [hy1] at o1 ⊢
        rw [hy2] at o2 ⊢
        have n1 : (y1 != y1) = false := by simp
        have n2 : (y2 != y2) = false := by simp
        have n3 : (m1 != m1) = false := by simp
        have n4 : (m2 != m2) = false := by simp
        clear hm1 hm2 hy1 hy2 hX7 hC7
        go_wp2_with fail
        refine wp_region_noPanic ?_
        refine wp_region_held_drew (S := (fun w' => w'.cell? ⟨gd, 3, none⟩ = some (.int .i64 xi) ∧ w'.cell? ⟨b, 1, none⟩ = some (.int .i64 y1) ∧ w'.cell? ⟨b, 2, none⟩ = some (.int .i64 y2))) (by kernel_rfl) ⟨y3, o1, o2⟩ (fun _ => ?_)
        refine wpAnyH_take (i := 0) (oi := _) (v := ?_) rfl (by kernel_rfl) (by kernel_rfl) (by kernel_rfl) (fun _ _ _ h => h) (Or.inl ⟨by kernel_rfl, ?_⟩) ⟨y3, o1, o2⟩ ?_
        rotate_left
        · (rintro w ⟨s1, s2, s3⟩; go_simp; (first | done | rfl))
        try simp only [Act.put, List.getElem_toArray, List.getElem_cons_zero, List.getElem_cons_succ, List.setIfInBounds_toArray, List.set_cons_zero, List.set_cons_succ]
        refine wpAnyH_take (i := 1) (oi := _) (v := ?_) rfl (by kernel_rfl) (by kernel_rfl) (by kernel_rfl) (fun _ _ _ h => h) (Or.inl ⟨by kernel_rfl, ?_⟩) ⟨y3, o1, o2⟩ ?_
        rotate_left
        · (rintro w ⟨s1, s2, s3⟩; go_simp; (first | done | rfl))
        try simp only [Act.put, List.getElem_toArray, List.getElem_cons_zero, List.getElem_cons_succ, List.setIfInBounds_toArray, List.set_cons_zero, List.set_cons_succ]
        refine wpAnyH_take (i := 2) (oi := _) (v := ?_) rfl (by kernel_rfl) (by kernel_rfl) (by kernel_rfl) (fun _ _ _ h => h) (Or.inl ⟨by kernel_rfl, ?_⟩) ⟨y3, o1, o2⟩ ?_
        rotate_left
        · (rintro w ⟨s1, s2, s3⟩; go_simp; (first | done | rfl))
        try simp only [Act.put, List.getElem_toArray, List.getElem_cons_zero, List.getElem_cons_succ, List.setIfInBounds_toArray, List.set_cons_zero, List.set_cons_succ]
        refine wpAnyH_take (i := 3) (oi := _) (v := ?_) rfl (by kernel_rfl) (by kernel_rfl) (by kernel_rfl) (fun _ _ _ h => h) (Or.inl ⟨by kernel_rfl, ?_⟩) ⟨y3, o1, o2⟩ ?_
        rotate_left
        · (rintro w ⟨s1, s2, s3⟩; go_simp; (first | done | rfl))
        try simp only [Act.put, List.getElem_toArray, List.getElem_cons_zero, List.getElem_cons_succ, List.setIfInBounds_toArray, List.set_cons_zero, List.set_cons_succ]
        refine wpAnyH_take (i := 4) (oi := _) (v := ?_) rfl (by kernel_rfl) (by kernel_rfl) (by kernel_rfl) (fun _ _ _ h => h) (Or.inl ⟨by kernel_rfl, ?_⟩) ⟨y3, o1, o2⟩ ?_
        rotate_left
        · (rintro w ⟨s1, s2, s3⟩; go_simp; (first | done | rfl))
        try simp only [Act.put, List.getElem_toArray, List.getElem_cons_zero, List.getElem_cons_succ, List.setIfInBounds_toArray, List.set_cons_zero, List.set_cons_succ]
        refine wpAnyH_take (i := 5) (oi := _) (v := ?_) rfl (by kernel_rfl) (by kernel_rfl) (by kernel_rfl) (fun _ _ _ h => h) (Or.inl ⟨by kernel_rfl, ?_⟩) ⟨y3, o1, o2⟩ ?_
        rotate_left
        · (rintro w ⟨s1, s2, s3⟩; go_simp; (first | done | rfl))
        try simp only [Act.put, List.getElem_toArray, List.getElem_cons_zero, List.getElem_cons_succ, List.setIfInBounds_toArray, List.set_cons_zero, List.set_cons_succ]
        refine wpAnyH_take (i := 6) (oi := _) (v := ?_) rfl (by kernel_rfl) (by kernel_rfl) (by kernel_rfl) (fun _ _ _ h => h) (Or.inl ⟨by kernel_rfl, ?_⟩) ⟨y3, o1, o2⟩ ?_
        rotate_left
        · (rintro w ⟨s1, s2, s3⟩; go_simp; (first | done | rfl))
        try simp only [Act.put, List.getElem_toArray, List.getElem_cons_zero, List.getElem_cons_succ, List.setIfInBounds_toArray, List.set_cons_zero, List.set_cons_succ]
        refine wpAnyH_take (i := 7) (oi := _) (v := ?_) rfl (by kernel_rfl) (by kernel_rfl) (by kernel_rfl) (fun _ _ _ h => h) (Or.inl ⟨by kernel_rfl, ?_⟩) ⟨y3, o1, o2⟩ ?_
        rotate_left
        · (rintro w ⟨s1, s2, s3⟩; go_simp; (first | done | rfl))
        try simp only [Act.put, List.getElem_toArray, List.getElem_cons_zero, List.getElem_cons_succ, List.setIfInBounds_toArray, List.set_cons_zero, List.set_cons_succ]
        refine wpAnyH_take (i := 8) (oi := _) (v := ?_) rfl (by kernel_rfl) (by kernel_rfl) (by kernel_rfl) (fun _ _ _ h => h) (Or.inl ⟨by kernel_rfl, ?_⟩) ⟨y3, o1, o2⟩ ?_
        rotate_left
        · (rintro w ⟨s1, s2, s3⟩; go_simp; (first | done | rfl))
        try simp only [Act.put, List.getElem_toArray, List.getElem_cons_zero, List.getElem_cons_succ, List.setIfInBounds_toArray, List.set_cons_zero, List.set_cons_succ]
        refine wpAnyH_take (i := 9) (oi := _) (v := ?_) rfl (by kernel_rfl) (by kernel_rfl) (by kernel_rfl) (fun _ _ _ h => h) (Or.inl ⟨by kernel_rfl, ?_⟩) ⟨y3, o1, o2⟩ ?_
        rotate_left
        · (rintro w ⟨s1, s2, s3⟩; go_simp; (first | done | rfl))
        try simp only [Act.put, List.getElem_toArray, List.getElem_cons_zero, List.getElem_cons_succ, List.setIfInBounds_toArray, List.set_cons_zero, List.set_cons_succ]
        refine wpAnyH_take (i := 10) (oi := _) (v := ?_) rfl (by kernel_rfl) (by kernel_rfl) (by kernel_rfl) (fun _ _ _ h => h) (Or.inl ⟨by kernel_rfl, ?_⟩) ⟨y3, o1, o2⟩ ?_
        rotate_left
        · (rintro w ⟨s1, s2, s3⟩; go_simp; (first | done | rfl))
        try simp only [Act.put, List.getElem_toArray, List.getElem_cons_zero, List.getElem_cons_succ, List.setIfInBounds_toArray, List.set_cons_zero, List.set_cons_succ]
        refine wpAnyH_take (i := 11) (oi := _) (v := ?_) rfl (by kernel_rfl) (by kernel_rfl) (by kernel_rfl) (fun _ _ _ h => h) (Or.inl ⟨by kernel_rfl, ?_⟩) ⟨y3, o1, o2⟩ ?_
        rotate_left
        · (rintro w ⟨s1, s2, s3⟩; go_simp; (first | done | rfl))
        try simp only [Act.put, List.getElem_toArray, List.getElem_cons_zero, List.getElem_cons_succ, List.setIfInBounds_toArray, List.set_cons_zero, List.set_cons_succ]
        refine wpAnyH_take (i := 12) (oi := _) (v := ?_) rfl (by kernel_rfl) (by kernel_rfl) (by kernel_rfl) (fun _ _ _ h => h) (Or.inl ⟨by kernel_rfl, ?_⟩) ⟨y3, o1, o2⟩ ?_
        rotate_left
        · (rintro w ⟨s1, s2, s3⟩; go_simp; (first | done | rfl))
        try simp only [Act.put, List.getElem_toArray, List.getElem_cons_zero, List.getElem_cons_succ, List.setIfInBounds_toArray, List.set_cons_zero, List.set_cons_succ]
        refine wpAnyH_take (i := 13) (oi := _) (v := ?_) rfl (by kernel_rfl) (by kernel_rfl) (by kernel_rfl) (fun _ _ _ h => h) (Or.inl ⟨by kernel_rfl, ?_⟩) ⟨y3, o1, o2⟩ ?_
        rotate_left
        · (rintro w ⟨s1, s2, s3⟩; go_simp; (first | done | rfl))
        try simp only [Act.put, List.getElem_toArray, List.getElem_cons_zero, List.getElem_cons_succ, List.setIfInBounds_toArray, List.set_cons_zero, List.set_cons_succ]
        refine wpAnyH_take (i := 14) (oi := _) (v := ?_) rfl (by kernel_rfl) (by kernel_rfl) (by kernel_rfl) (fun _ _ _ h => h) (Or.inl ⟨by kernel_rfl, ?_⟩) ⟨y3, o1, o2⟩ ?_
        rotate_left
        · (rintro w ⟨s1, s2, s3⟩; go_simp; (first | done | rfl))
        try simp only [Act.put, List.getElem_toArray, List.getElem_cons_zero, List.getElem_cons_succ, List.setIfInBounds_toArray, List.set_cons_zero, List.set_cons_succ]
        refine wpAnyH_take (i := 15) (oi := _) (v := ?_) rfl (by kernel_rfl) (by kernel_rfl) (by kernel_rfl) (fun _ _ _ h => h) (Or.inl ⟨by kernel_rfl, ?_⟩) ⟨y3, o1, o2⟩ ?_
        rotate_left
        · (rintro w ⟨s1, s2, s3⟩; go_simp; (first | done | rfl))
        try simp only [Act.put, List.getElem_toArray, List.getElem_cons_zero, List.getElem_cons_succ, List.setIfInBounds_toArray, List.set_cons_zero, List.set_cons_succ]
        refine wpAnyH_take (i := 16) (oi := _) (v := ?_) rfl (by kernel_rfl) (by kernel_rfl) (by kernel_rfl) (fun _ _ _ h => h) (Or.inl ⟨by kernel_rfl, ?_⟩) ⟨y3, o1, o2⟩ ?_
        rotate_left
        · (rintro w ⟨s1, s2, s3⟩; go_simp; (first | done | rfl))
        try simp only [Act.put, List.getElem_toArray, List.getElem_cons_zero, List.getElem_cons_succ, List.setIfInBounds_toArray, List.set_cons_zero, List.set_cons_succ]
        refine wpAnyH_take (i := 17) (oi := _) (v := ?_) rfl (by kernel_rfl) (by kernel_rfl) (by kernel_rfl) (fun _ _ _ h => h) (Or.inl ⟨by kernel_rfl, ?_⟩) ⟨y3, o1, o2⟩ ?_
        rotate_left
        · (rintro w ⟨s1, s2, s3⟩; go_simp; (first | done | rfl))
        try simp only [Act.put, List.getElem_toArray, List.getElem_cons_zero, List.getElem_cons_succ, List.setIfInBounds_toArray, List.set_cons_zero, List.set_cons_succ]
        refine wpAnyH_take (i := 19) (oi := _) (v := ?_) rfl (by kernel_rfl) (by kernel_rfl) (by kernel_rfl) (fun _ _ _ h => h) (Or.inl ⟨by kernel_rfl, ?_⟩) ⟨y3, o1, o2⟩ ?_
        rotate_left
        · (rintro w ⟨s1, s2, s3⟩; go_simp; (first | done | rfl))
        try simp only [Act.put, List.getElem_toArray, List.getElem_cons_zero, List.getElem_cons_succ, List.setIfInBounds_toArray, List.set_cons_zero, List.set_cons_succ]
        refine wpAnyH_take (i := 20) (oi := _) (v := ?_) rfl (by kernel_rfl) (by kernel_rfl) (by kernel_rfl) (fun _ _ _ h => h) (Or.inl ⟨by kernel_rfl, ?_⟩) ⟨y3, o1, o2⟩ ?_
        rotate_left
        · (rintro w ⟨s1, s2, s3⟩; go_simp; (first | done | rfl))
        try simp only [Act.put, List.getElem_toArray, List.getElem_cons_zero, List.getElem_cons_succ, List.setIfInBounds_toArray, List.set_cons_zero, List.set_cons_succ]
        refine wpAnyH_ready (rs := [18]) (by kernel_rfl) (by simp) (AllReadyH.cons (o := _) rfl (fun K hK => ?_) AllReadyH.nil)
        rw [if_pos (by kernel_rfl)]
        refine wp_fn 33 _ _ rfl _ rfl enters_cs hS1 ?_
        rintro r w' ⟨rfl, rfl⟩
        refine ⟨_, rfl, ?_⟩
        refine hK.out _ _ ⟨y3, o1, o2⟩ (fun _ => ?_)
        clear hK K
        try simp only [Act.put, List.getElem_toArray, List.getElem_cons_zero, List.getElem_cons_succ, List.setIfInBounds_toArray, List.set_cons_zero, List.set_cons_succ]
        refine wpAnyH_ready (rs := [21]) (by kernel_rfl) (by simp) (AllReadyH.cons (o := _) rfl (fun K hK => ?_) AllReadyH.nil)
        rw [if_pos (by kernel_rfl)]
        refine wp_fn 34 _ _ rfl _ rfl enters_rs hD1 ?_
        rintro r w' ⟨rfl, rfl⟩
        refine ⟨_, rfl, ?_⟩
        refine hK.out _ _ ⟨y3, o1, o2⟩ (fun _ => ?_)
        clear hK K
        try simp only [Act.put, List.getElem_toArray, List.getElem_cons_zero, List.getElem_cons_succ, List.setIfInBounds_toArray, List.set_cons_zero, List.set_cons_succ]
        refine wpAnyH_take (i := 22) (oi := _) (v := ?_) rfl (by kernel_rfl) (by kernel_rfl) (by kernel_rfl) (fun _ _ _ h => h) (Or.inl ⟨by kernel_rfl, ?_⟩) ⟨y3, o1, o2⟩ ?_
        rotate_left
        · (rintro w ⟨s1, s2, s3⟩; go_simp; (first | done | rfl))
        try simp only [Act.put, List.getElem_toArray, List.getElem_cons_zero, List.getElem_cons_succ, List.setIfInBounds_toArray, List.set_cons_zero, List.set_cons_succ]
        refine wpAnyH_take (i := 23) (oi := _) (v := ?_) rfl (by kernel_rfl) (by kernel_rfl) (by kernel_rfl) (fun _ _ _ h => h) (Or.inl ⟨by kernel_rfl, ?_⟩) ⟨y3, o1, o2⟩ ?_
        rotate_left
        · (rintro w ⟨s1, s2, s3⟩; go_simp; (first | done | rfl))
        try simp only [Act.put, List.getElem_toArray, List.getElem_cons_zero, List.getElem_cons_succ, List.setIfInBounds_toArray, List.set_cons_zero, List.set_cons_succ]
        refine wpAnyH_take (i := 24) (oi := _) (v := ?_) rfl (by kernel_rfl) (by kernel_rfl) (by kernel_rfl) (fun _ _ _ h => h) (Or.inl ⟨by kernel_rfl, ?_⟩) ⟨y3, o1, o2⟩ ?_
        rotate_left
        · (rintro w ⟨s1, s2, s3⟩; go_simp; (first | done | rfl))
        try simp only [Act.put, List.getElem_toArray, List.getElem_cons_zero, List.getElem_cons_succ, List.setIfInBounds_toArray, List.set_cons_zero, List.set_cons_succ]
        refine wpAnyH_take (i := 25) (oi := _) (v := ?_) rfl (by kernel_rfl) (by kernel_rfl) (by kernel_rfl) (fun _ _ _ h => h) (Or.inl ⟨by kernel_rfl, ?_⟩) ⟨y3, o1, o2⟩ ?_
        rotate_left
        · (rintro w ⟨s1, s2, s3⟩; go_simp; (first | done | rfl))
        try simp only [Act.put, List.getElem_toArray, List.getElem_cons_zero, List.getElem_cons_succ, List.setIfInBounds_toArray, List.set_cons_zero, List.set_cons_succ]
        refine wpAnyH_take (i := 26) (oi := _) (v := ?_) rfl (by kernel_rfl) (by kernel_rfl) (by kernel_rfl) (fun _ _ _ h => h) (Or.inl ⟨by kernel_rfl, ?_⟩) ⟨y3, o1, o2⟩ ?_
        rotate_left
        · (rintro w ⟨s1, s2, s3⟩; go_simp; (first | done | rfl))
        try simp only [Act.put, List.getElem_toArray, List.getElem_cons_zero, List.getElem_cons_succ, List.setIfInBounds_toArray, List.set_cons_zero, List.set_cons_succ]
        refine wpAnyH_take (i := 28) (oi := _) (v := ?_) rfl (by kernel_rfl) (by kernel_rfl) (by kernel_rfl) (fun _ _ _ h => h) (Or.inl ⟨by kernel_rfl, ?_⟩) ⟨y3, o1, o2⟩ ?_
        rotate_left
        · (rintro w ⟨s1, s2, s3⟩; go_simp; (first | done | rfl))
        try simp only [Act.put, List.getElem_toArray, List.getElem_cons_zero, List.getElem_cons_succ, List.setIfInBounds_toArray, List.set_cons_zero, List.set_cons_succ]
        refine wpAnyH_ready (rs := [27]) (by kernel_rfl) (by simp) (AllReadyH.cons (o := _) rfl (fun K hK => ?_) AllReadyH.nil)
        rw [if_pos (by kernel_rfl)]
        refine wp_fn 33 _ _ rfl _ rfl enters_cs hS2 ?_
        rintro r w' ⟨rfl, rfl⟩
        refine ⟨_, rfl, ?_⟩
        refine hK.out _ _ ⟨y3, o1, o2⟩ (fun _ => ?_)
        clear hK K
        try simp only [Act.put, List.getElem_toArray, List.getElem_cons_zero, List.getElem_cons_succ, List.setIfInBounds_toArray, List.set_cons_zero, List.set_cons_succ]
        refine wpAnyH_ready (rs := [29]) (by kernel_rfl) (by simp) (AllReadyH.cons (o := _) rfl (fun K hK => ?_) AllReadyH.nil)
        rw [if_pos (by kernel_rfl)]
        refine wp_fn 34 _ _ rfl _ rfl enters_rs hD2 ?_
        rintro r w' ⟨rfl, rfl⟩
        refine ⟨_, rfl, ?_⟩
        refine hK.out _ _ ⟨y3, o1, o2⟩ (fun _ => ?_)
        clear hK K
        try simp only [Act.put, List.getElem_toArray, List.getElem_cons_zero, List.getElem_cons_succ, List.setIfInBounds_toArray, List.set_cons_zero, List.set_cons_succ]
        refine wpAnyH_take (i := 30) (oi := _) (v := ?_) rfl (by kernel_rfl) (by kernel_rfl) (by kernel_rfl) (fun _ _ _ h => h) (Or.inl ⟨by kernel_rfl, ?_⟩) ⟨y3, o1, o2⟩ ?_
        rotate_left
        · (rintro w ⟨s1, s2, s3⟩; go_simp; (first | done | rfl))
        try simp only [Act.put, List.getElem_toArray, List.getElem_cons_zero, List.getElem_cons_succ, List.setIfInBounds_toArray, List.set_cons_zero, List.set_cons_succ]
        refine wpAnyH_take (i := 31) (oi := _) (v := ?_) rfl (by kernel_rfl) (by kernel_rfl) (by kernel_rfl) (fun _ _ _ h => h) (Or.inl ⟨by kernel_rfl, ?_⟩) ⟨y3, o1, o2⟩ ?_
        rotate_left
        · (rintro w ⟨s1, s2, s3⟩; go_simp; (first | done | rfl))
        try simp only [Act.put, List.getElem_toArray, List.getElem_cons_zero, List.getElem_cons_succ, List.setIfInBounds_toArray, List.set_cons_zero, List.set_cons_succ]
        refine wpAnyH_done (by kernel_rfl) ?_ _
        refine NoPanic.normal ?_
        go_wp2
        go_roundw
        case rel => exact ⟨i + 1, s6, (fun k => k = gd), by omega, by go_num, hT7.keep (below_drew (Below.refl _ _)), below_drew hB7⟩
        case measure => simp [intOf]; omega
      · have t0 : ((xk : Int) % 5 == 0) = false := by rw [mod5 cq]; decide
        have t1 : ((xk : Int) % 5 == 1) = true := by rw [mod5 cq]; decide
        clear cq
        have hlen := Lib.hid (show (stepL s).length ≤ 16 by
          rw [step_open, List.length_map]
          exact Nat.le_trans (openI_len s) hFew.out.2)
        obtain ⟨Uc, Ur, hX4⟩ := hT4
        have hC4 := cstep_ w4 a Uc s hX4.c
        have hR4 := hX4.r
        have hT4 : Tw w4 a b (fun k => k = gd) s s := ⟨Uc, Ur, hX4⟩
        clear hX4
        obtain ⟨l, hl⟩ : ∃ l, stepL s = l := ⟨_, rfl⟩
        have hRst : ∀ W, Rc W b Ur s → _ := fun W hR => rstep_ W b Ur s hR hFew.out.2
        simp only [hl] at hC4 hRst
        rw [hl] at hlen
        clear hl
        obtain ⟨m, hm⟩ : ∃ m, l.length = m := ⟨_, rfl⟩
        simp only [hm] at hC4 hRst
        rw [hm] at hlen
        clear hm
        have hm16 := hlen.out
        go_wp2_with fail
        rw [Hw4.out, Hgd.out]
        refine hC4.mono ?_
        rintro r w5 ⟨q5, rfl, ho5, hb5⟩
        have hR5 := hR4.keep hb5
        have hT5 := hT4.keep hb5
        have u3 := (hb5.cell (cell_lt e3)).trans e3
        have hB5 := hB4.trans (hb5.mono hs4)
        have hs5 := hb5.size
        clear hC4 hR4 hT4 hB4 Hw4 Hgd hb5
        go_wp2_with fail
        refine (hRst w5 hR5).mono ?_
        rintro r w6 ⟨q6, rfl, ho6, hb6⟩
        have hT6 := hT5.keep hb6
        have ho5 := own_keep ho5 hb6
        have v3 := (hb6.cell (cell_lt u3)).trans u3
        have hB6 := hB5.trans (hb6.mono (by omega))
        have hs6 := hb6.size
        clear hRst hR5 hT5 hB5 hb6 u3
        obtain ⟨A5, c5, rfl, hc5, hm5, hn5⟩ := own_form ho5
        obtain ⟨A6, c6, rfl, hc6, hm6, hn6⟩ := own_form ho6
        have hOr := orders_ w6 A5 A6 m c5 c6 l (rd_own ho5) (rd_own ho6) (by omega) hc5 hc6
        clear hn5 hn6 ho5 ho6
        go_wp2_with fail
        refine hOr.mono ?_
        rintro r w8 ⟨rfl, hb8⟩
        have hT8 := hT6.keep hb8
        have v8 := (hb8.cell (cell_lt v3)).trans v3
        have hB8 := hB6.trans (hb8.mono (by omega))
        clear hOr hT6 v3 hB6 hb8
        have hT6 := hT8
        have v3 := v8
        have hB6 := hB8
        clear hT8 v8 hB8
        obtain ⟨Uc6, Ur6, hX6⟩ := hT6
        have hC6 := hX6.c
        have hR6 := hX6.r
        have hT6 : Tw w8 a b (fun k => k = gd) s s := ⟨Uc6, Ur6, hX6⟩
        have hph6 := (phase_ w8 a Uc6 s hC6)
        clear hX6
        go_wp2_with fail
        refine hph6.mono ?_
        rintro r w7 ⟨rfl, k7, rfl⟩
        have hC7 : Cd (w8.drewN k7) a Uc6 s := hC6.fu (S := fun _ => False) ((Fu.refl _ _).drewN _) (fun _ _ e => e) (fun e => e) (fun e => e)
        have hR7 : Rc (w8.drewN k7) b Ur6 s := hR6.drewN _
        have hT7 : Tw (w8.drewN k7) a b (fun k => k = gd) s s := hT6.keep (below_drewN (Below.refl _ _) _)
        have hB7 : Below a w (w8.drewN k7) := below_drewN hB6 _
        have y3 : (w8.drewN k7).cell? ⟨gd, 3, none⟩ = some (.int .i64 xi) := v3
        clear hC6 hR6 hT6 hB6 hph6
        generalize w8.drewN k7 = w7 at *
        obtain ⟨m1, hm1⟩ : ∃ q, stC s xi = q := ⟨_, rfl⟩
        obtain ⟨m2, hm2⟩ : ∃ q, stC s x = q := ⟨_, rfl⟩
        have hS1 : Calls Try.prog 33 #[.pointer (some ⟨a + 1, 0, none⟩), .int .i64 xi] w7.drew fun r w' => r = .returned (.int .i64 m1) ∧ w7.drew = w' := hm1 ▸ state_ w7.drew a Uc6 s (hC7.fu (S := fun _ => False) ((Fu.refl _ _).drew) (fun _ _ e => e) (fun e => e) (fun e => e)) xi hid
        have hS2 : Calls Try.prog 33 #[.pointer (some ⟨a + 1, 0, none⟩), .int .i64 x] w7.drew fun r w' => r = .returned (.int .i64 m2) ∧ w7.drew = w' := hm2 ▸ state_ w7.drew a Uc6 s (hC7.fu (S := fun _ => False) ((Fu.refl _ _).drew) (fun _ _ e => e) (fun e => e) (fun e => e)) x hx
        have hD1 : Calls Try.prog 34 #[.pointer (some ⟨b, 0, none⟩), .int .i64 xi] w7.drew fun r w' => r = .returned (.int .i64 m1) ∧ w7.drew = w' := hm1 ▸ rstate_ w7.drew b Ur6 s (hR7.keep (below_drew (Below.refl _ _))) xi
        have hD2 : Calls Try.prog 34 #[.pointer (some ⟨b, 0, none⟩), .int .i64 x] w7.drew fun r w' => r = .returned (.int .i64 m2) ∧ w7.drew = w' := hm2 ▸ rstate_ w7.drew b Ur6 s (hR7.keep (below_drew (Below.refl _ _))) x
        obtain ⟨g7, A1, k1, c1, A2, k2, c2, hX7⟩ := hR7
        obtain ⟨-, o1, o2, -, -⟩ := hX7.cells
        obtain ⟨y1, hy1⟩ : ∃ q, s.ph = q := ⟨_, rfl⟩
        obtain ⟨y2, hy2⟩ : ∃ q, s.id = q := ⟨_, rfl⟩
        rw [hy1] at o1 ⊢
        rw [hy2] at o2 ⊢
        have n1 : (y1 != y1) = false := by simp
        have n2 : (y2 != y2) = false := by simp
        have n3 : (m1 != m1) = false := by simp
        have n4 : (m2 != m2) = false := by simp
        clear hm1 hm2 hy1 hy2 hX7 hC7
        go_wp2_with fail
        refine wp_region_noPanic ?_
        refine wp_region_held_drew (S := (fun w' => w'.cell? ⟨gd, 3, none⟩ = some (.int .i64 xi) ∧ w'.cell? ⟨b, 1, none⟩ = some (.int .i64 y1) ∧ w'.cell? ⟨b, 2, none⟩ = some (.int .i64 y2))) (by kernel_rfl) ⟨y3, o1, o2⟩ (fun _ => ?_)
        refine wpAnyH_take (i := 0) (oi := _) (v := ?_) rfl (by kernel_rfl) (by kernel_rfl) (by kernel_rfl) (fun _ _ _ h => h) (Or.inl ⟨by kernel_rfl, ?_⟩) ⟨y3, o1, o2⟩ ?_
        rotate_left
        · (rintro w ⟨s1, s2, s3⟩; go_simp; (first | done | rfl))
        try simp only [Act.put, List.getElem_toArray, List.getElem_cons_zero, List.getElem_cons_succ, List.setIfInBounds_toArray, List.set_cons_zero, List.set_cons_succ]
        refine wpAnyH_take (i := 1) (oi := _) (v := ?_) rfl (by kernel_rfl) (by kernel_rfl) (by kernel_rfl) (fun _ _ _ h => h) (Or.inl ⟨by kernel_rfl, ?_⟩) ⟨y3, o1, o2⟩ ?_
        rotate_left
        · (rintro w ⟨s1, s2, s3⟩; go_simp; (first | done | rfl))
        try simp only [Act.put, List.getElem_toArray, List.getElem_cons_zero, List.getElem_cons_succ, List.setIfInBounds_toArray, List.set_cons_zero, List.set_cons_succ]
        refine wpAnyH_take (i := 2) (oi := _) (v := ?_) rfl (by kernel_rfl) (by kernel_rfl) (by kernel_rfl) (fun _ _ _ h => h) (Or.inl ⟨by kernel_rfl, ?_⟩) ⟨y3, o1, o2⟩ ?_
        rotate_left
        · (rintro w ⟨s1, s2, s3⟩; go_simp; (first | done | rfl))
        try simp only [Act.put, List.getElem_toArray, List.getElem_cons_zero, List.getElem_cons_succ, List.setIfInBounds_toArray, List.set_cons_zero, List.set_cons_succ]
        refine wpAnyH_take (i := 3) (oi := _) (v := ?_) rfl (by kernel_rfl) (by kernel_rfl) (by kernel_rfl) (fun _ _ _ h => h) (Or.inl ⟨by kernel_rfl, ?_⟩) ⟨y3, o1, o2⟩ ?_
        rotate_left
        · (rintro w ⟨s1, s2, s3⟩; go_simp; (first | done | rfl))
        try simp only [Act.put, List.getElem_toArray, List.getElem_cons_zero, List.getElem_cons_succ, List.setIfInBounds_toArray, List.set_cons_zero, List.set_cons_succ]
        refine wpAnyH_take (i := 4) (oi := _) (v := ?_) rfl (by kernel_rfl) (by kernel_rfl) (by kernel_rfl) (fun _ _ _ h => h) (Or.inl ⟨by kernel_rfl, ?_⟩) ⟨y3, o1, o2⟩ ?_
        rotate_left
        · (rintro w ⟨s1, s2, s3⟩; go_simp; (first | done | rfl))
        try simp only [Act.put, List.getElem_toArray, List.getElem_cons_zero, List.getElem_cons_succ, List.setIfInBounds_toArray, List.set_cons_zero, List.set_cons_succ]
        refine wpAnyH_take (i := 5) (oi := _) (v := ?_) rfl (by kernel_rfl) (by kernel_rfl) (by kernel_rfl) (fun _ _ _ h => h) (Or.inl ⟨by kernel_rfl, ?_⟩) ⟨y3, o1, o2⟩ ?_
        rotate_left
        · (rintro w ⟨s1, s2, s3⟩; go_simp; (first | done | rfl))
        try simp only [Act.put, List.getElem_toArray, List.getElem_cons_zero, List.getElem_cons_succ, List.setIfInBounds_toArray, List.set_cons_zero, List.set_cons_succ]
        refine wpAnyH_take (i := 6) (oi := _) (v := ?_) rfl (by kernel_rfl) (by kernel_rfl) (by kernel_rfl) (fun _ _ _ h => h) (Or.inl ⟨by kernel_rfl, ?_⟩) ⟨y3, o1, o2⟩ ?_
        rotate_left
        · (rintro w ⟨s1, s2, s3⟩; go_simp; (first | done | rfl))
        try simp only [Act.put, List.getElem_toArray, List.getElem_cons_zero, List.getElem_cons_succ, List.setIfInBounds_toArray, List.set_cons_zero, List.set_cons_succ]
        refine wpAnyH_take (i := 7) (oi := _) (v := ?_) rfl (by kernel_rfl) (by kernel_rfl) (by kernel_rfl) (fun _ _ _ h => h) (Or.inl ⟨by kernel_rfl, ?_⟩) ⟨y3, o1, o2⟩ ?_
        rotate_left
        · (rintro w ⟨s1, s2, s3⟩; go_simp; (first | done | rfl))
        try simp only [Act.put, List.getElem_toArray, List.getElem_cons_zero, List.getElem_cons_succ, List.setIfInBounds_toArray, List.set_cons_zero, List.set_cons_succ]
        refine wpAnyH_take (i := 8) (oi := _) (v := ?_) rfl (by kernel_rfl) (by kernel_rfl) (by kernel_rfl) (fun _ _ _ h => h) (Or.inl ⟨by kernel_rfl, ?_⟩) ⟨y3, o1, o2⟩ ?_
        rotate_left
        · (rintro w ⟨s1, s2, s3⟩; go_simp; (first | done | rfl))
        try simp only [Act.put, List.getElem_toArray, List.getElem_cons_zero, List.getElem_cons_succ, List.setIfInBounds_toArray, List.set_cons_zero, List.set_cons_succ]
        refine wpAnyH_take (i := 9) (oi := _) (v := ?_) rfl (by kernel_rfl) (by kernel_rfl) (by kernel_rfl) (fun _ _ _ h => h) (Or.inl ⟨by kernel_rfl, ?_⟩) ⟨y3, o1, o2⟩ ?_
        rotate_left
        · (rintro w ⟨s1, s2, s3⟩; go_simp; (first | done | rfl))
        try simp only [Act.put, List.getElem_toArray, List.getElem_cons_zero, List.getElem_cons_succ, List.setIfInBounds_toArray, List.set_cons_zero, List.set_cons_succ]
        refine wpAnyH_take (i := 10) (oi := _) (v := ?_) rfl (by kernel_rfl) (by kernel_rfl) (by kernel_rfl) (fun _ _ _ h => h) (Or.inl ⟨by kernel_rfl, ?_⟩) ⟨y3, o1, o2⟩ ?_
        rotate_left
        · (rintro w ⟨s1, s2, s3⟩; go_simp; (first | done | rfl))
        try simp only [Act.put, List.getElem_toArray, List.getElem_cons_zero, List.getElem_cons_succ, List.setIfInBounds_toArray, List.set_cons_zero, List.set_cons_succ]
        refine wpAnyH_take (i := 11) (oi := _) (v := ?_) rfl (by kernel_rfl) (by kernel_rfl) (by kernel_rfl) (fun _ _ _ h => h) (Or.inl ⟨by kernel_rfl, ?_⟩) ⟨y3, o1, o2⟩ ?_
        rotate_left
        · (rintro w ⟨s1, s2, s3⟩; go_simp; (first | done | rfl))
        try simp only [Act.put, List.getElem_toArray, List.getElem_cons_zero, List.getElem_cons_succ, List.setIfInBounds_toArray, List.set_cons_zero, List.set_cons_succ]
        refine wpAnyH_take (i := 12) (oi := _) (v := ?_) rfl (by kernel_rfl) (by kernel_rfl) (by kernel_rfl) (fun _ _ _ h => h) (Or.inl ⟨by kernel_rfl, ?_⟩) ⟨y3, o1, o2⟩ ?_
        rotate_left
        · (rintro w ⟨s1, s2, s3⟩; go_simp; (first | done | rfl))
        try simp only [Act.put, List.getElem_toArray, List.getElem_cons_zero, List.getElem_cons_succ, List.setIfInBounds_toArray, List.set_cons_zero, List.set_cons_succ]
        refine wpAnyH_take (i := 13) (oi := _) (v := ?_) rfl (by kernel_rfl) (by kernel_rfl) (by kernel_rfl) (fun _ _ _ h => h) (Or.inl ⟨by kernel_rfl, ?_⟩) ⟨y3, o1, o2⟩ ?_
        rotate_left
        · (rintro w ⟨s1, s2, s3⟩; go_simp; (first | done | rfl))
        try simp only [Act.put, List.getElem_toArray, List.getElem_cons_zero, List.getElem_cons_succ, List.setIfInBounds_toArray, List.set_cons_zero, List.set_cons_succ]
        refine wpAnyH_take (i := 14) (oi := _) (v := ?_) rfl (by kernel_rfl) (by kernel_rfl) (by kernel_rfl) (fun _ _ _ h => h) (Or.inl ⟨by kernel_rfl, ?_⟩) ⟨y3, o1, o2⟩ ?_
        rotate_left
        · (rintro w ⟨s1, s2, s3⟩; go_simp; (first | done | rfl))
        try simp only [Act.put, List.getElem_toArray, List.getElem_cons_zero, List.getElem_cons_succ, List.setIfInBounds_toArray, List.set_cons_zero, List.set_cons_succ]
        refine wpAnyH_take (i := 15) (oi := _) (v := ?_) rfl (by kernel_rfl) (by kernel_rfl) (by kernel_rfl) (fun _ _ _ h => h) (Or.inl ⟨by kernel_rfl, ?_⟩) ⟨y3, o1, o2⟩ ?_
        rotate_left
        · (rintro w ⟨s1, s2, s3⟩; go_simp; (first | done | rfl))
        try simp only [Act.put, List.getElem_toArray, List.getElem_cons_zero, List.getElem_cons_succ, List.setIfInBounds_toArray, List.set_cons_zero, List.set_cons_succ]
        refine wpAnyH_take (i := 16) (oi := _) (v := ?_) rfl (by kernel_rfl) (by kernel_rfl) (by kernel_rfl) (fun _ _ _ h => h) (Or.inl ⟨by kernel_rfl, ?_⟩) ⟨y3, o1, o2⟩ ?_
        rotate_left
        · (rintro w ⟨s1, s2, s3⟩; go_simp; (first | done | rfl))
        try simp only [Act.put, List.getElem_toArray, List.getElem_cons_zero, List.getElem_cons_succ, List.setIfInBounds_toArray, List.set_cons_zero, List.set_cons_succ]
        refine wpAnyH_take (i := 17) (oi := _) (v := ?_) rfl (by kernel_rfl) (by kernel_rfl) (by kernel_rfl) (fun _ _ _ h => h) (Or.inl ⟨by kernel_rfl, ?_⟩) ⟨y3, o1, o2⟩ ?_
        rotate_left
        · (rintro w ⟨s1, s2, s3⟩; go_simp; (first | done | rfl))
        try simp only [Act.put, List.getElem_toArray, List.getElem_cons_zero, List.getElem_cons_succ, List.setIfInBounds_toArray, List.set_cons_zero, List.set_cons_succ]
        refine wpAnyH_take (i := 19) (oi := _) (v := ?_) rfl (by kernel_rfl) (by kernel_rfl) (by kernel_rfl) (fun _ _ _ h => h) (Or.inl ⟨by kernel_rfl, ?_⟩) ⟨y3, o1, o2⟩ ?_
        rotate_left
        · (rintro w ⟨s1, s2, s3⟩; go_simp; (first | done | rfl))
        try simp only [Act.put, List.getElem_toArray, List.getElem_cons_zero, List.getElem_cons_succ, List.setIfInBounds_toArray, List.set_cons_zero, List.set_cons_succ]
        refine wpAnyH_take (i := 20) (oi := _) (v := ?_) rfl (by kernel_rfl) (by kernel_rfl) (by kernel_rfl) (fun _ _ _ h => h) (Or.inl ⟨by kernel_rfl, ?_⟩) ⟨y3, o1, o2⟩ ?_
        rotate_left
        · (rintro w ⟨s1, s2, s3⟩; go_simp; (first | done | rfl))
        try simp only [Act.put, List.getElem_toArray, List.getElem_cons_zero, List.getElem_cons_succ, List.setIfInBounds_toArray, List.set_cons_zero, List.set_cons_succ]
        refine wpAnyH_ready (rs := [18]) (by kernel_rfl) (by simp) (AllReadyH.cons (o := _) rfl (fun K hK => ?_) AllReadyH.nil)
        rw [if_pos (by kernel_rfl)]
        refine wp_fn 33 _ _ rfl _ rfl enters_cs hS1 ?_
        rintro r w' ⟨rfl, rfl⟩
        refine ⟨_, rfl, ?_⟩
        refine hK.out _ _ ⟨y3, o1, o2⟩ (fun _ => ?_)
        clear hK K
        try simp only [Act.put, List.getElem_toArray, List.getElem_cons_zero, List.getElem_cons_succ, List.setIfInBounds_toArray, List.set_cons_zero, List.set_cons_succ]
        refine wpAnyH_ready (rs := [21]) (by kernel_rfl) (by simp) (AllReadyH.cons (o := _) rfl (fun K hK => ?_) AllReadyH.nil)
        rw [if_pos (by kernel_rfl)]
        refine wp_fn 34 _ _ rfl _ rfl enters_rs hD1 ?_
        rintro r w' ⟨rfl, rfl⟩
        refine ⟨_, rfl, ?_⟩
        refine hK.out _ _ ⟨y3, o1, o2⟩ (fun _ => ?_)
        clear hK K
        try simp only [Act.put, List.getElem_toArray, List.getElem_cons_zero, List.getElem_cons_succ, List.setIfInBounds_toArray, List.set_cons_zero, List.set_cons_succ]
        refine wpAnyH_take (i := 22) (oi := _) (v := ?_) rfl (by kernel_rfl) (by kernel_rfl) (by kernel_rfl) (fun _ _ _ h => h) (Or.inl ⟨by kernel_rfl, ?_⟩) ⟨y3, o1, o2⟩ ?_
        rotate_left
        · (rintro w ⟨s1, s2, s3⟩; go_simp; (first | done | rfl))
        try simp only [Act.put, List.getElem_toArray, List.getElem_cons_zero, List.getElem_cons_succ, List.setIfInBounds_toArray, List.set_cons_zero, List.set_cons_succ]
        refine wpAnyH_take (i := 23) (oi := _) (v := ?_) rfl (by kernel_rfl) (by kernel_rfl) (by kernel_rfl) (fun _ _ _ h => h) (Or.inl ⟨by kernel_rfl, ?_⟩) ⟨y3, o1, o2⟩ ?_
        rotate_left
        · (rintro w ⟨s1, s2, s3⟩; go_simp; (first | done | rfl))
        try simp only [Act.put, List.getElem_toArray, List.getElem_cons_zero, List.getElem_cons_succ, List.setIfInBounds_toArray, List.set_cons_zero, List.set_cons_succ]
        refine wpAnyH_take (i := 24) (oi := _) (v := ?_) rfl (by kernel_rfl) (by kernel_rfl) (by kernel_rfl) (fun _ _ _ h => h) (Or.inl ⟨by kernel_rfl, ?_⟩) ⟨y3, o1, o2⟩ ?_
        rotate_left
        · (rintro w ⟨s1, s2, s3⟩; go_simp; (first | done | rfl))
        try simp only [Act.put, List.getElem_toArray, List.getElem_cons_zero, List.getElem_cons_succ, List.setIfInBounds_toArray, List.set_cons_zero, List.set_cons_succ]
        refine wpAnyH_take (i := 25) (oi := _) (v := ?_) rfl (by kernel_rfl) (by kernel_rfl) (by kernel_rfl) (fun _ _ _ h => h) (Or.inl ⟨by kernel_rfl, ?_⟩) ⟨y3, o1, o2⟩ ?_
        rotate_left
        · (rintro w ⟨s1, s2, s3⟩; go_simp; (first | done | rfl))
        try simp only [Act.put, List.getElem_toArray, List.getElem_cons_zero, List.getElem_cons_succ, List.setIfInBounds_toArray, List.set_cons_zero, List.set_cons_succ]
        refine wpAnyH_take (i := 26) (oi := _) (v := ?_) rfl (by kernel_rfl) (by kernel_rfl) (by kernel_rfl) (fun _ _ _ h => h) (Or.inl ⟨by kernel_rfl, ?_⟩) ⟨y3, o1, o2⟩ ?_
        rotate_left
        · (rintro w ⟨s1, s2, s3⟩; go_simp; (first | done | rfl))
        try simp only [Act.put, List.getElem_toArray, List.getElem_cons_zero, List.getElem_cons_succ, List.setIfInBounds_toArray, List.set_cons_zero, List.set_cons_succ]
        refine wpAnyH_take (i := 28) (oi := _) (v := ?_) rfl (by kernel_rfl) (by kernel_rfl) (by kernel_rfl) (fun _ _ _ h => h) (Or.inl ⟨by kernel_rfl, ?_⟩) ⟨y3, o1, o2⟩ ?_
        rotate_left
        · (rintro w ⟨s1, s2, s3⟩; go_simp; (first | done | rfl))
        try simp only [Act.put, List.getElem_toArray, List.getElem_cons_zero, List.getElem_cons_succ, List.setIfInBounds_toArray, List.set_cons_zero, List.set_cons_succ]
        refine wpAnyH_ready (rs := [27]) (by kernel_rfl) (by simp) (AllReadyH.cons (o := _) rfl (fun K hK => ?_) AllReadyH.nil)
        rw [if_pos (by kernel_rfl)]
        refine wp_fn 33 _ _ rfl _ rfl enters_cs hS2 ?_
        rintro r w' ⟨rfl, rfl⟩
        refine ⟨_, rfl, ?_⟩
        refine hK.out _ _ ⟨y3, o1, o2⟩ (fun _ => ?_)
        clear hK K
        try simp only [Act.put, List.getElem_toArray, List.getElem_cons_zero, List.getElem_cons_succ, List.setIfInBounds_toArray, List.set_cons_zero, List.set_cons_succ]
        refine wpAnyH_ready (rs := [29]) (by kernel_rfl) (by simp) (AllReadyH.cons (o := _) rfl (fun K hK => ?_) AllReadyH.nil)
        rw [if_pos (by kernel_rfl)]
        refine wp_fn 34 _ _ rfl _ rfl enters_rs hD2 ?_
        rintro r w' ⟨rfl, rfl⟩
        refine ⟨_, rfl, ?_⟩
        refine hK.out _ _ ⟨y3, o1, o2⟩ (fun _ => ?_)
        clear hK K
        try simp only [Act.put, List.getElem_toArray, List.getElem_cons_zero, List.getElem_cons_succ, List.setIfInBounds_toArray, List.set_cons_zero, List.set_cons_succ]
        refine wpAnyH_take (i := 30) (oi := _) (v := ?_) rfl (by kernel_rfl) (by kernel_rfl) (by kernel_rfl) (fun _ _ _ h => h) (Or.inl ⟨by kernel_rfl, ?_⟩) ⟨y3, o1, o2⟩ ?_
        rotate_left
        · (rintro w ⟨s1, s2, s3⟩; go_simp; (first | done | rfl))
        try simp only [Act.put, List.getElem_toArray, List.getElem_cons_zero, List.getElem_cons_succ, List.setIfInBounds_toArray, List.set_cons_zero, List.set_cons_succ]
        refine wpAnyH_take (i := 31) (oi := _) (v := ?_) rfl (by kernel_rfl) (by kernel_rfl) (by kernel_rfl) (fun _ _ _ h => h) (Or.inl ⟨by kernel_rfl, ?_⟩) ⟨y3, o1, o2⟩ ?_
        rotate_left
        · (rintro w ⟨s1, s2, s3⟩; go_simp; (first | done | rfl))
        try simp only [Act.put, List.getElem_toArray, List.getElem_cons_zero, List.getElem_cons_succ, List.setIfInBounds_toArray, List.set_cons_zero, List.set_cons_succ]
        refine wpAnyH_done (by kernel_rfl) ?_ _
        refine NoPanic.normal ?_
        go_wp2
        go_roundw
        case rel => exact ⟨i + 1, s, (fun k => k = gd), by omega, by go_num, hT7.keep (below_drew (Below.refl _ _)), below_drew hB7⟩
        case measure => simp [intOf]; omega
      · have t0 : ((xk : Int) % 5 == 0) = false := by rw [mod5 cq]; decide
        have t1 : ((xk : Int) % 5 == 1) = false := by rw [mod5 cq]; decide
        have t2 : ((xk : Int) % 5 == 2) = true := by rw [mod5 cq]; decide
        clear cq
        have d1 : (w4.drew).cell? ⟨gd, 1, none⟩ = some (.int .i64 xa) := e1
        have d2 : (w4.drew).cell? ⟨gd, 2, none⟩ = some (.int .i64 xn) := e2
        have d3 : (w4.drew).cell? ⟨gd, 3, none⟩ = some (.int .i64 xi) := e3
        have hT4d : Tw w4.drew a b (fun k => k = gd) s s := hT4.keep (below_drew (Below.refl _ _))
        have hB4d : Below a w w4.drew := below_drew hB4
        obtain ⟨s6, hs6⟩ : ∃ q, hearS s xa xn xi = q := ⟨_, rfl⟩
        have hO1 := tw_c hT4d (fun Uc hC => hear_ w4.drew a Uc s hC xa xn xi)
        have hO2 : ∀ W, Tw W a b (fun k => k = gd) (hearS s xa xn xi) s → _ := fun W hT => tw_r hT (fun Ur hR => rhear_ W b Ur s hR hFew.out hOk.out.ph xa xn xi)
        obtain ⟨R, hR0⟩ : ∃ q, hearE s xa xn xi = q := ⟨_, rfl⟩
        rw [hR0] at hO1
        simp only [hR0] at hO2
        have nR : (R == R) = true := by simp
        clear hR0
        rw [hs6] at hO1
        simp only [hs6] at hO2
        clear hs6
        go_wp2_with fail
        rw [Hw4.out, Hgd.out]
        clear Hw4 Hgd hT4
        go_region_held3 (fun w' => w'.cell? ⟨gd, 1, none⟩ = some (.int .i64 xa) ∧ w'.cell? ⟨gd, 2, none⟩ = some (.int .i64 xn) ∧ w'.cell? ⟨gd, 3, none⟩ = some (.int .i64 xi))
          (first | go_keep | exact ⟨e1, e2, e3⟩ | exact ⟨u1, u2, u3⟩ | exact ⟨v1, v2, v3⟩)
          (first
            | (go_at_call 26
               refine hO1.mono ?_
               rintro r w5 ⟨rfl, hT5, hK5, hB5⟩
               have u1 := hK5 _ _ rfl d1
               have u2 := hK5 _ _ rfl d2
               have u3 := hK5 _ _ rfl d3)
            | (go_at_call 27
               refine (hO2 _ hT5).mono ?_
               rintro r w6 ⟨rfl, hT6, hK6, hB6⟩
               have v1 := hK6 _ _ rfl u1
               have v2 := hK6 _ _ rfl u2
               have v3 := hK6 _ _ rfl u3))
        have hB6 : Below a w w6 := (hB4d.trans hB5).trans hB6
        clear hO1 hO2 hT5 hK5 hK6 hB5 hB4 hB4d
        obtain ⟨Uc6, Ur6, hX6⟩ := hT6
        have hC6 := hX6.c
        have hR6 := hX6.r
        have hT6 : Tw w6 a b (fun k => k = gd) s6 s6 := ⟨Uc6, Ur6, hX6⟩
        have hph6 := (phase_ w6 a Uc6 s6 hC6)
        clear hX6
        go_wp2_with fail
        refine hph6.mono ?_
        rintro r w7 ⟨rfl, k7, rfl⟩
        have hC7 : Cd (w6.drewN k7) a Uc6 s6 := hC6.fu (S := fun _ => False) ((Fu.refl _ _).drewN _) (fun _ _ e => e) (fun e => e) (fun e => e)
        have hR7 : Rc (w6.drewN k7) b Ur6 s6 := hR6.drewN _
        have hT7 : Tw (w6.drewN k7) a b (fun k => k = gd) s6 s6 := hT6.keep (below_drewN (Below.refl _ _) _)
        have hB7 : Below a w (w6.drewN k7) := below_drewN hB6 _
        have y3 : (w6.drewN k7).cell? ⟨gd, 3, none⟩ = some (.int .i64 xi) := v3
        clear hC6 hR6 hT6 hB6 hph6
        generalize w6.drewN k7 = w7 at *
        obtain ⟨m1, hm1⟩ : ∃ q, stC s6 xi = q := ⟨_, rfl⟩
        obtain ⟨m2, hm2⟩ : ∃ q, stC s6 x = q := ⟨_, rfl⟩
        have hS1 : Calls Try.prog 33 #[.pointer (some ⟨a + 1, 0, none⟩), .int .i64 xi] w7.drew fun r w' => r = .returned (.int .i64 m1) ∧ w7.drew = w' := hm1 ▸ state_ w7.drew a Uc6 s6 (hC7.fu (S := fun _ => False) ((Fu.refl _ _).drew) (fun _ _ e => e) (fun e => e) (fun e => e)) xi hid
        have hS2 : Calls Try.prog 33 #[.pointer (some ⟨a + 1, 0, none⟩), .int .i64 x] w7.drew fun r w' => r = .returned (.int .i64 m2) ∧ w7.drew = w' := hm2 ▸ state_ w7.drew a Uc6 s6 (hC7.fu (S := fun _ => False) ((Fu.refl _ _).drew) (fun _ _ e => e) (fun e => e) (fun e => e)) x hx
        have hD1 : Calls Try.prog 34 #[.pointer (some ⟨b, 0, none⟩), .int .i64 xi] w7.drew fun r w' => r = .returned (.int .i64 m1) ∧ w7.drew = w' := hm1 ▸ rstate_ w7.drew b Ur6 s6 (hR7.keep (below_drew (Below.refl _ _))) xi
        have hD2 : Calls Try.prog 34 #[.pointer (some ⟨b, 0, none⟩), .int .i64 x] w7.drew fun r w' => r = .returned (.int .i64 m2) ∧ w7.drew = w' := hm2 ▸ rstate_ w7.drew b Ur6 s6 (hR7.keep (below_drew (Below.refl _ _))) x
        obtain ⟨g7, A1, k1, c1, A2, k2, c2, hX7⟩ := hR7
        obtain ⟨-, o1, o2, -, -⟩ := hX7.cells
        obtain ⟨y1, hy1⟩ : ∃ q, s6.ph = q := ⟨_, rfl⟩
        obtain ⟨y2, hy2⟩ : ∃ q, s6.id = q := ⟨_, rfl⟩
        rw [hy1] at o1 ⊢
        rw [hy2] at o2 ⊢
        have n1 : (y1 != y1) = false := by simp
        have n2 : (y2 != y2) = false := by simp
        have n3 : (m1 != m1) = false := by simp
        have n4 : (m2 != m2) = false := by simp
        clear hm1 hm2 hy1 hy2 hX7 hC7
        go_wp2_with fail
        refine wp_region_noPanic ?_
        refine wp_region_held_drew (S := (fun w' => w'.cell? ⟨gd, 3, none⟩ = some (.int .i64 xi) ∧ w'.cell? ⟨b, 1, none⟩ = some (.int .i64 y1) ∧ w'.cell? ⟨b, 2, none⟩ = some (.int .i64 y2))) (by kernel_rfl) ⟨y3, o1, o2⟩ (fun _ => ?_)
        refine wpAnyH_take (i := 0) (oi := _) (v := ?_) rfl (by kernel_rfl) (by kernel_rfl) (by kernel_rfl) (fun _ _ _ h => h) (Or.inl ⟨by kernel_rfl, ?_⟩) ⟨y3, o1, o2⟩ ?_
        rotate_left
        · (rintro w ⟨s1, s2, s3⟩; go_simp; (first | done | rfl))
        try simp only [Act.put, List.getElem_toArray, List.getElem_cons_zero, List.getElem_cons_succ, List.setIfInBounds_toArray, List.set_cons_zero, List.set_cons_succ]
        refine wpAnyH_take (i := 1) (oi := _) (v := ?_) rfl (by kernel_rfl) (by kernel_rfl) (by kernel_rfl) (fun _ _ _ h => h) (Or.inl ⟨by kernel_rfl, ?_⟩) ⟨y3, o1, o2⟩ ?_
        rotate_left
        · (rintro w ⟨s1, s2, s3⟩; go_simp; (first | done | rfl))
        try simp only [Act.put, List.getElem_toArray, List.getElem_cons_zero, List.getElem_cons_succ, List.setIfInBounds_toArray, List.set_cons_zero, List.set_cons_succ]
        refine wpAnyH_take (i := 2) (oi := _) (v := ?_) rfl (by kernel_rfl) (by kernel_rfl) (by kernel_rfl) (fun _ _ _ h => h) (Or.inl ⟨by kernel_rfl, ?_⟩) ⟨y3, o1, o2⟩ ?_
        rotate_left
        · (rintro w ⟨s1, s2, s3⟩; go_simp; (first | done | rfl))
        try simp only [Act.put, List.getElem_toArray, List.getElem_cons_zero, List.getElem_cons_succ, List.setIfInBounds_toArray, List.set_cons_zero, List.set_cons_succ]
        refine wpAnyH_take (i := 3) (oi := _) (v := ?_) rfl (by kernel_rfl) (by kernel_rfl) (by kernel_rfl) (fun _ _ _ h => h) (Or.inl ⟨by kernel_rfl, ?_⟩) ⟨y3, o1, o2⟩ ?_
        rotate_left
        · (rintro w ⟨s1, s2, s3⟩; go_simp; (first | done | rfl))
        try simp only [Act.put, List.getElem_toArray, List.getElem_cons_zero, List.getElem_cons_succ, List.setIfInBounds_toArray, List.set_cons_zero, List.set_cons_succ]
        refine wpAnyH_take (i := 4) (oi := _) (v := ?_) rfl (by kernel_rfl) (by kernel_rfl) (by kernel_rfl) (fun _ _ _ h => h) (Or.inl ⟨by kernel_rfl, ?_⟩) ⟨y3, o1, o2⟩ ?_
        rotate_left
        · (rintro w ⟨s1, s2, s3⟩; go_simp; (first | done | rfl))
        try simp only [Act.put, List.getElem_toArray, List.getElem_cons_zero, List.getElem_cons_succ, List.setIfInBounds_toArray, List.set_cons_zero, List.set_cons_succ]
        refine wpAnyH_take (i := 5) (oi := _) (v := ?_) rfl (by kernel_rfl) (by kernel_rfl) (by kernel_rfl) (fun _ _ _ h => h) (Or.inl ⟨by kernel_rfl, ?_⟩) ⟨y3, o1, o2⟩ ?_
        rotate_left
        · (rintro w ⟨s1, s2, s3⟩; go_simp; (first | done | rfl))
        try simp only [Act.put, List.getElem_toArray, List.getElem_cons_zero, List.getElem_cons_succ, List.setIfInBounds_toArray, List.set_cons_zero, List.set_cons_succ]
        refine wpAnyH_take (i := 6) (oi := _) (v := ?_) rfl (by kernel_rfl) (by kernel_rfl) (by kernel_rfl) (fun _ _ _ h => h) (Or.inl ⟨by kernel_rfl, ?_⟩) ⟨y3, o1, o2⟩ ?_
        rotate_left
        · (rintro w ⟨s1, s2, s3⟩; go_simp; (first | done | rfl))
        try simp only [Act.put, List.getElem_toArray, List.getElem_cons_zero, List.getElem_cons_succ, List.setIfInBounds_toArray, List.set_cons_zero, List.set_cons_succ]
        refine wpAnyH_take (i := 7) (oi := _) (v := ?_) rfl (by kernel_rfl) (by kernel_rfl) (by kernel_rfl) (fun _ _ _ h => h) (Or.inl ⟨by kernel_rfl, ?_⟩) ⟨y3, o1, o2⟩ ?_
        rotate_left
        · (rintro w ⟨s1, s2, s3⟩; go_simp; (first | done | rfl))
        try simp only [Act.put, List.getElem_toArray, List.getElem_cons_zero, List.getElem_cons_succ, List.setIfInBounds_toArray, List.set_cons_zero, List.set_cons_succ]
        refine wpAnyH_take (i := 8) (oi := _) (v := ?_) rfl (by kernel_rfl) (by kernel_rfl) (by kernel_rfl) (fun _ _ _ h => h) (Or.inl ⟨by kernel_rfl, ?_⟩) ⟨y3, o1, o2⟩ ?_
        rotate_left
        · (rintro w ⟨s1, s2, s3⟩; go_simp; (first | done | rfl))
        try simp only [Act.put, List.getElem_toArray, List.getElem_cons_zero, List.getElem_cons_succ, List.setIfInBounds_toArray, List.set_cons_zero, List.set_cons_succ]
        refine wpAnyH_take (i := 9) (oi := _) (v := ?_) rfl (by kernel_rfl) (by kernel_rfl) (by kernel_rfl) (fun _ _ _ h => h) (Or.inl ⟨by kernel_rfl, ?_⟩) ⟨y3, o1, o2⟩ ?_
        rotate_left
        · (rintro w ⟨s1, s2, s3⟩; go_simp; (first | done | rfl))
        try simp only [Act.put, List.getElem_toArray, List.getElem_cons_zero, List.getElem_cons_succ, List.setIfInBounds_toArray, List.set_cons_zero, List.set_cons_succ]
        refine wpAnyH_take (i := 10) (oi := _) (v := ?_) rfl (by kernel_rfl) (by kernel_rfl) (by kernel_rfl) (fun _ _ _ h => h) (Or.inl ⟨by kernel_rfl, ?_⟩) ⟨y3, o1, o2⟩ ?_
        rotate_left
        · (rintro w ⟨s1, s2, s3⟩; go_simp; (first | done | rfl))
        try simp only [Act.put, List.getElem_toArray, List.getElem_cons_zero, List.getElem_cons_succ, List.setIfInBounds_toArray, List.set_cons_zero, List.set_cons_succ]
        refine wpAnyH_take (i := 11) (oi := _) (v := ?_) rfl (by kernel_rfl) (by kernel_rfl) (by kernel_rfl) (fun _ _ _ h => h) (Or.inl ⟨by kernel_rfl, ?_⟩) ⟨y3, o1, o2⟩ ?_
        rotate_left
        · (rintro w ⟨s1, s2, s3⟩; go_simp; (first | done | rfl))
        try simp only [Act.put, List.getElem_toArray, List.getElem_cons_zero, List.getElem_cons_succ, List.setIfInBounds_toArray, List.set_cons_zero, List.set_cons_succ]
        refine wpAnyH_take (i := 12) (oi := _) (v := ?_) rfl (by kernel_rfl) (by kernel_rfl) (by kernel_rfl) (fun _ _ _ h => h) (Or.inl ⟨by kernel_rfl, ?_⟩) ⟨y3, o1, o2⟩ ?_
        rotate_left
        · (rintro w ⟨s1, s2, s3⟩; go_simp; (first | done | rfl))
        try simp only [Act.put, List.getElem_toArray, List.getElem_cons_zero, List.getElem_cons_succ, List.setIfInBounds_toArray, List.set_cons_zero, List.set_cons_succ]
        refine wpAnyH_take (i := 13) (oi := _) (v := ?_) rfl (by kernel_rfl) (by kernel_rfl) (by kernel_rfl) (fun _ _ _ h => h) (Or.inl ⟨by kernel_rfl, ?_⟩) ⟨y3, o1, o2⟩ ?_
        rotate_left
        · (rintro w ⟨s1, s2, s3⟩; go_simp; (first | done | rfl))
        try simp only [Act.put, List.getElem_toArray, List.getElem_cons_zero, List.getElem_cons_succ, List.setIfInBounds_toArray, List.set_cons_zero, List.set_cons_succ]
        refine wpAnyH_take (i := 14) (oi := _) (v := ?_) rfl (by kernel_rfl) (by kernel_rfl) (by kernel_rfl) (fun _ _ _ h => h) (Or.inl ⟨by kernel_rfl, ?_⟩) ⟨y3, o1, o2⟩ ?_
        rotate_left
        · (rintro w ⟨s1, s2, s3⟩; go_simp; (first | done | rfl))
        try simp only [Act.put, List.getElem_toArray, List.getElem_cons_zero, List.getElem_cons_succ, List.setIfInBounds_toArray, List.set_cons_zero, List.set_cons_succ]
        refine wpAnyH_take (i := 15) (oi := _) (v := ?_) rfl (by kernel_rfl) (by kernel_rfl) (by kernel_rfl) (fun _ _ _ h => h) (Or.inl ⟨by kernel_rfl, ?_⟩) ⟨y3, o1, o2⟩ ?_
        rotate_left
        · (rintro w ⟨s1, s2, s3⟩; go_simp; (first | done | rfl))
        try simp only [Act.put, List.getElem_toArray, List.getElem_cons_zero, List.getElem_cons_succ, List.setIfInBounds_toArray, List.set_cons_zero, List.set_cons_succ]
        refine wpAnyH_take (i := 16) (oi := _) (v := ?_) rfl (by kernel_rfl) (by kernel_rfl) (by kernel_rfl) (fun _ _ _ h => h) (Or.inl ⟨by kernel_rfl, ?_⟩) ⟨y3, o1, o2⟩ ?_
        rotate_left
        · (rintro w ⟨s1, s2, s3⟩; go_simp; (first | done | rfl))
        try simp only [Act.put, List.getElem_toArray, List.getElem_cons_zero, List.getElem_cons_succ, List.setIfInBounds_toArray, List.set_cons_zero, List.set_cons_succ]
        refine wpAnyH_take (i := 17) (oi := _) (v := ?_) rfl (by kernel_rfl) (by kernel_rfl) (by kernel_rfl) (fun _ _ _ h => h) (Or.inl ⟨by kernel_rfl, ?_⟩) ⟨y3, o1, o2⟩ ?_
        rotate_left
        · (rintro w ⟨s1, s2, s3⟩; go_simp; (first | done | rfl))
        try simp only [Act.put, List.getElem_toArray, List.getElem_cons_zero, List.getElem_cons_succ, List.setIfInBounds_toArray, List.set_cons_zero, List.set_cons_succ]
        refine wpAnyH_take (i := 19) (oi := _) (v := ?_) rfl (by kernel_rfl) (by kernel_rfl) (by kernel_rfl) (fun _ _ _ h => h) (Or.inl ⟨by kernel_rfl, ?_⟩) ⟨y3, o1, o2⟩ ?_
        rotate_left
        · (rintro w ⟨s1, s2, s3⟩; go_simp; (first | done | rfl))
        try simp only [Act.put, List.getElem_toArray, List.getElem_cons_zero, List.getElem_cons_succ, List.setIfInBounds_toArray, List.set_cons_zero, List.set_cons_succ]
        refine wpAnyH_take (i := 20) (oi := _) (v := ?_) rfl (by kernel_rfl) (by kernel_rfl) (by kernel_rfl) (fun _ _ _ h => h) (Or.inl ⟨by kernel_rfl, ?_⟩) ⟨y3, o1, o2⟩ ?_
        rotate_left
        · (rintro w ⟨s1, s2, s3⟩; go_simp; (first | done | rfl))
        try simp only [Act.put, List.getElem_toArray, List.getElem_cons_zero, List.getElem_cons_succ, List.setIfInBounds_toArray, List.set_cons_zero, List.set_cons_succ]
        refine wpAnyH_ready (rs := [18]) (by kernel_rfl) (by simp) (AllReadyH.cons (o := _) rfl (fun K hK => ?_) AllReadyH.nil)
        rw [if_pos (by kernel_rfl)]
        refine wp_fn 33 _ _ rfl _ rfl enters_cs hS1 ?_
        rintro r w' ⟨rfl, rfl⟩
        refine ⟨_, rfl, ?_⟩
        refine hK.out _ _ ⟨y3, o1, o2⟩ (fun _ => ?_)
        clear hK K
        try simp only [Act.put, List.getElem_toArray, List.getElem_cons_zero, List.getElem_cons_succ, List.setIfInBounds_toArray, List.set_cons_zero, List.set_cons_succ]
        refine wpAnyH_ready (rs := [21]) (by kernel_rfl) (by simp) (AllReadyH.cons (o := _) rfl (fun K hK => ?_) AllReadyH.nil)
        rw [if_pos (by kernel_rfl)]
        refine wp_fn 34 _ _ rfl _ rfl enters_rs hD1 ?_
        rintro r w' ⟨rfl, rfl⟩
        refine ⟨_, rfl, ?_⟩
        refine hK.out _ _ ⟨y3, o1, o2⟩ (fun _ => ?_)
        clear hK K
        try simp only [Act.put, List.getElem_toArray, List.getElem_cons_zero, List.getElem_cons_succ, List.setIfInBounds_toArray, List.set_cons_zero, List.set_cons_succ]
        refine wpAnyH_take (i := 22) (oi := _) (v := ?_) rfl (by kernel_rfl) (by kernel_rfl) (by kernel_rfl) (fun _ _ _ h => h) (Or.inl ⟨by kernel_rfl, ?_⟩) ⟨y3, o1, o2⟩ ?_
        rotate_left
        · (rintro w ⟨s1, s2, s3⟩; go_simp; (first | done | rfl))
        try simp only [Act.put, List.getElem_toArray, List.getElem_cons_zero, List.getElem_cons_succ, List.setIfInBounds_toArray, List.set_cons_zero, List.set_cons_succ]
        refine wpAnyH_take (i := 23) (oi := _) (v := ?_) rfl (by kernel_rfl) (by kernel_rfl) (by kernel_rfl) (fun _ _ _ h => h) (Or.inl ⟨by kernel_rfl, ?_⟩) ⟨y3, o1, o2⟩ ?_
        rotate_left
        · (rintro w ⟨s1, s2, s3⟩; go_simp; (first | done | rfl))
        try simp only [Act.put, List.getElem_toArray, List.getElem_cons_zero, List.getElem_cons_succ, List.setIfInBounds_toArray, List.set_cons_zero, List.set_cons_succ]
        refine wpAnyH_take (i := 24) (oi := _) (v := ?_) rfl (by kernel_rfl) (by kernel_rfl) (by kernel_rfl) (fun _ _ _ h => h) (Or.inl ⟨by kernel_rfl, ?_⟩) ⟨y3, o1, o2⟩ ?_
        rotate_left
        · (rintro w ⟨s1, s2, s3⟩; go_simp; (first | done | rfl))
        try simp only [Act.put, List.getElem_toArray, List.getElem_cons_zero, List.getElem_cons_succ, List.setIfInBounds_toArray, List.set_cons_zero, List.set_cons_succ]
        refine wpAnyH_take (i := 25) (oi := _) (v := ?_) rfl (by kernel_rfl) (by kernel_rfl) (by kernel_rfl) (fun _ _ _ h => h) (Or.inl ⟨by kernel_rfl, ?_⟩) ⟨y3, o1, o2⟩ ?_
        rotate_left
        · (rintro w ⟨s1, s2, s3⟩; go_simp; (first | done | rfl))
        try simp only [Act.put, List.getElem_toArray, List.getElem_cons_zero, List.getElem_cons_succ, List.setIfInBounds_toArray, List.set_cons_zero, List.set_cons_succ]
        refine wpAnyH_take (i := 26) (oi := _) (v := ?_) rfl (by kernel_rfl) (by kernel_rfl) (by kernel_rfl) (fun _ _ _ h => h) (Or.inl ⟨by kernel_rfl, ?_⟩) ⟨y3, o1, o2⟩ ?_
        rotate_left
        · (rintro w ⟨s1, s2, s3⟩; go_simp; (first | done | rfl))
        try simp only [Act.put, List.getElem_toArray, List.getElem_cons_zero, List.getElem_cons_succ, List.setIfInBounds_toArray, List.set_cons_zero, List.set_cons_succ]
        refine wpAnyH_take (i := 28) (oi := _) (v := ?_) rfl (by kernel_rfl) (by kernel_rfl) (by kernel_rfl) (fun _ _ _ h => h) (Or.inl ⟨by kernel_rfl, ?_⟩) ⟨y3, o1, o2⟩ ?_
        rotate_left
        · (rintro w ⟨s1, s2, s3⟩; go_simp; (first | done | rfl))
        try simp only [Act.put, List.getElem_toArray, List.getElem_cons_zero, List.getElem_cons_succ, List.setIfInBounds_toArray, List.set_cons_zero, List.set_cons_succ]
        refine wpAnyH_ready (rs := [27]) (by kernel_rfl) (by simp) (AllReadyH.cons (o := _) rfl (fun K hK => ?_) AllReadyH.nil)
        rw [if_pos (by kernel_rfl)]
        refine wp_fn 33 _ _ rfl _ rfl enters_cs hS2 ?_
        rintro r w' ⟨rfl, rfl⟩
        refine ⟨_, rfl, ?_⟩
        refine hK.out _ _ ⟨y3, o1, o2⟩ (fun _ => ?_)
        clear hK K
        try simp only [Act.put, List.getElem_toArray, List.getElem_cons_zero, List.getElem_cons_succ, List.setIfInBounds_toArray, List.set_cons_zero, List.set_cons_succ]
        refine wpAnyH_ready (rs := [29]) (by kernel_rfl) (by simp) (AllReadyH.cons (o := _) rfl (fun K hK => ?_) AllReadyH.nil)
        rw [if_pos (by kernel_rfl)]
        refine wp_fn 34 _ _ rfl _ rfl enters_rs hD2 ?_
        rintro r w' ⟨rfl, rfl⟩
        refine ⟨_, rfl, ?_⟩
        refine hK.out _ _ ⟨y3, o1, o2⟩ (fun _ => ?_)
        clear hK K
        try simp only [Act.put, List.getElem_toArray, List.getElem_cons_zero, List.getElem_cons_succ, List.setIfInBounds_toArray, List.set_cons_zero, List.set_cons_succ]
        refine wpAnyH_take (i := 30) (oi := _) (v := ?_) rfl (by kernel_rfl) (by kernel_rfl) (by kernel_rfl) (fun _ _ _ h => h) (Or.inl ⟨by kernel_rfl, ?_⟩) ⟨y3, o1, o2⟩ ?_
        rotate_left
        · (rintro w ⟨s1, s2, s3⟩; go_simp; (first | done | rfl))
        try simp only [Act.put, List.getElem_toArray, List.getElem_cons_zero, List.getElem_cons_succ, List.setIfInBounds_toArray, List.set_cons_zero, List.set_cons_succ]
        refine wpAnyH_take (i := 31) (oi := _) (v := ?_) rfl (by kernel_rfl) (by kernel_rfl) (by kernel_rfl) (fun _ _ _ h => h) (Or.inl ⟨by kernel_rfl, ?_⟩) ⟨y3, o1, o2⟩ ?_
        rotate_left
        · (rintro w ⟨s1, s2, s3⟩; go_simp; (first | done | rfl))
        try simp only [Act.put, List.getElem_toArray, List.getElem_cons_zero, List.getElem_cons_succ, List.setIfInBounds_toArray, List.set_cons_zero, List.set_cons_succ]
        refine wpAnyH_done (by kernel_rfl) ?_ _
        refine NoPanic.normal ?_
        go_wp2
        go_roundw
        case rel => exact ⟨i + 1, s6, (fun k => k = gd), by omega, by go_num, hT7.keep (below_drew (Below.refl _ _)), below_drew hB7⟩
        case measure => simp [intOf]; omega
      · have t0 : ((xk : Int) % 5 == 0) = false := by rw [mod5 cq]; decide
        have t1 : ((xk : Int) % 5 == 1) = false := by rw [mod5 cq]; decide
        have t2 : ((xk : Int) % 5 == 2) = false := by rw [mod5 cq]; decide
        have t3 : ((xk : Int) % 5 == 3) = true := by rw [mod5 cq]; decide
        clear cq
        have d1 : (w4).cell? ⟨gd, 1, none⟩ = some (.int .i64 xa) := e1
        have d2 : (w4).cell? ⟨gd, 2, none⟩ = some (.int .i64 xn) := e2
        have d3 : (w4).cell? ⟨gd, 3, none⟩ = some (.int .i64 xi) := e3
        have hT4d : Tw w4 a b (fun k => k = gd) s s := hT4
        have hB4d : Below a w w4 := hB4
        obtain ⟨s6, hs6⟩ : ∃ q, abS s = q := ⟨_, rfl⟩
        have hO1 := tw_c hT4d (fun Uc hC => cabort_ w4 a Uc s hC)
        have hO2 : ∀ W, Tw W a b (fun k => k = gd) (abS s) s → _ := fun W hT => tw_r hT (fun Ur hR => rabort_ W b Ur s hR hFew.out.2)
        obtain ⟨R, hR0⟩ : ∃ q, abE s = q := ⟨_, rfl⟩
        rw [hR0] at hO1
        simp only [hR0] at hO2
        have nR : (R == R) = true := by simp
        clear hR0
        rw [hs6] at hO1
        simp only [hs6] at hO2
        clear hs6
        go_wp2_with fail
        rw [Hw4.out, Hgd.out]
        refine hO1.mono ?_
        rintro r w5 ⟨rfl, hT5, hK5, hB5⟩
        have u3 := hK5 _ _ rfl d3
        clear Hw4 Hgd hT4
        go_wp2_with fail
        refine (hO2 _ hT5).mono ?_
        rintro r w6 ⟨rfl, hT6, hK6, hB6⟩
        have v3 := hK6 _ _ rfl u3
        have hB6 : Below a w w6 := (hB4d.trans hB5).trans hB6
        clear hO1 hO2 hT5 hK5 hK6 hB5 hB4 hB4d
        obtain ⟨Uc6, Ur6, hX6⟩ := hT6
        have hC6 := hX6.c
        have hR6 := hX6.r
        have hT6 : Tw w6 a b (fun k => k = gd) s6 s6 := ⟨Uc6, Ur6, hX6⟩
        have hph6 := (phase_ w6 a Uc6 s6 hC6)
        clear hX6
        go_wp2_with fail
        refine hph6.mono ?_
        rintro r w7 ⟨rfl, k7, rfl⟩
        have hC7 : Cd (w6.drewN k7) a Uc6 s6 := hC6.fu (S := fun _ => False) ((Fu.refl _ _).drewN _) (fun _ _ e => e) (fun e => e) (fun e => e)
        have hR7 : Rc (w6.drewN k7) b Ur6 s6 := hR6.drewN _
        have hT7 : Tw (w6.drewN k7) a b (fun k => k = gd) s6 s6 := hT6.keep (below_drewN (Below.refl _ _) _)
        have hB7 : Below a w (w6.drewN k7) := below_drewN hB6 _
        have y3 : (w6.drewN k7).cell? ⟨gd, 3, none⟩ = some (.int .i64 xi) := v3
        clear hC6 hR6 hT6 hB6 hph6
        generalize w6.drewN k7 = w7 at *
        obtain ⟨m1, hm1⟩ : ∃ q, stC s6 xi = q := ⟨_, rfl⟩
        obtain ⟨m2, hm2⟩ : ∃ q, stC s6 x = q := ⟨_, rfl⟩
        have hS1 : Calls Try.prog 33 #[.pointer (some ⟨a + 1, 0, none⟩), .int .i64 xi] w7.drew fun r w' => r = .returned (.int .i64 m1) ∧ w7.drew = w' := hm1 ▸ state_ w7.drew a Uc6 s6 (hC7.fu (S := fun _ => False) ((Fu.refl _ _).drew) (fun _ _ e => e) (fun e => e) (fun e => e)) xi hid
        have hS2 : Calls Try.prog 33 #[.pointer (some ⟨a + 1, 0, none⟩), .int .i64 x] w7.drew fun r w' => r = .returned (.int .i64 m2) ∧ w7.drew = w' := hm2 ▸ state_ w7.drew a Uc6 s6 (hC7.fu (S := fun _ => False) ((Fu.refl _ _).drew) (fun _ _ e => e) (fun e => e) (fun e => e)) x hx
        have hD1 : Calls Try.prog 34 #[.pointer (some ⟨b, 0, none⟩), .int .i64 xi] w7.drew fun r w' => r = .returned (.int .i64 m1) ∧ w7.drew = w' := hm1 ▸ rstate_ w7.drew b Ur6 s6 (hR7.keep (below_drew (Below.refl _ _))) xi
        have hD2 : Calls Try.prog 34 #[.pointer (some ⟨b, 0, none⟩), .int .i64 x] w7.drew fun r w' => r = .returned (.int .i64 m2) ∧ w7.drew = w' := hm2 ▸ rstate_ w7.drew b Ur6 s6 (hR7.keep (below_drew (Below.refl _ _))) x
        obtain ⟨g7, A1, k1, c1, A2, k2, c2, hX7⟩ := hR7
        obtain ⟨-, o1, o2, -, -⟩ := hX7.cells
        obtain ⟨y1, hy1⟩ : ∃ q, s6.ph = q := ⟨_, rfl⟩
        obtain ⟨y2, hy2⟩ : ∃ q, s6.id = q := ⟨_, rfl⟩
        rw [hy1] at o1 ⊢
        rw [hy2] at o2 ⊢
        have n1 : (y1 != y1) = false := by simp
        have n2 : (y2 != y2) = false := by simp
        have n3 : (m1 != m1) = false := by simp
        have n4 : (m2 != m2) = false := by simp
        clear hm1 hm2 hy1 hy2 hX7 hC7
        go_wp2_with fail
        refine wp_region_noPanic ?_
        refine wp_region_held_drew (S := (fun w' => w'.cell? ⟨gd, 3, none⟩ = some (.int .i64 xi) ∧ w'.cell? ⟨b, 1, none⟩ = some (.int .i64 y1) ∧ w'.cell? ⟨b, 2, none⟩ = some (.int .i64 y2))) (by kernel_rfl) ⟨y3, o1, o2⟩ (fun _ => ?_)
        refine wpAnyH_take (i := 0) (oi := _) (v := ?_) rfl (by kernel_rfl) (by kernel_rfl) (by kernel_rfl) (fun _ _ _ h => h) (Or.inl ⟨by kernel_rfl, ?_⟩) ⟨y3, o1, o2⟩ ?_
        rotate_left
        · (rintro w ⟨s1, s2, s3⟩; go_simp; (first | done | rfl))
        try simp only [Act.put, List.getElem_toArray, List.getElem_cons_zero, List.getElem_cons_succ, List.setIfInBounds_toArray, List.set_cons_zero, List.set_cons_succ]
        refine wpAnyH_take (i := 1) (oi := _) (v := ?_) rfl (by kernel_rfl) (by kernel_rfl) (by kernel_rfl) (fun _ _ _ h => h) (Or.inl ⟨by kernel_rfl, ?_⟩) ⟨y3, o1, o2⟩ ?_
        rotate_left
        · (rintro w ⟨s1, s2, s3⟩; go_simp; (first | done | rfl))
        try simp only [Act.put, List.getElem_toArray, List.getElem_cons_zero, List.getElem_cons_succ, List.setIfInBounds_toArray, List.set_cons_zero, List.set_cons_succ]
        refine wpAnyH_take (i := 2) (oi := _) (v := ?_) rfl (by kernel_rfl) (by kernel_rfl) (by kernel_rfl) (fun _ _ _ h => h) (Or.inl ⟨by kernel_rfl, ?_⟩) ⟨y3, o1, o2⟩ ?_
        rotate_left
        · (rintro w ⟨s1, s2, s3⟩; go_simp; (first | done | rfl))
        try simp only [Act.put, List.getElem_toArray, List.getElem_cons_zero, List.getElem_cons_succ, List.setIfInBounds_toArray, List.set_cons_zero, List.set_cons_succ]
        refine wpAnyH_take (i := 3) (oi := _) (v := ?_) rfl (by kernel_rfl) (by kernel_rfl) (by kernel_rfl) (fun _ _ _ h => h) (Or.inl ⟨by kernel_rfl, ?_⟩) ⟨y3, o1, o2⟩ ?_
        rotate_left
        · (rintro w ⟨s1, s2, s3⟩; go_simp; (first | done | rfl))
        try simp only [Act.put, List.getElem_toArray, List.getElem_cons_zero, List.getElem_cons_succ, List.setIfInBounds_toArray, List.set_cons_zero, List.set_cons_succ]
        refine wpAnyH_take (i := 4) (oi := _) (v := ?_) rfl (by kernel_rfl) (by kernel_rfl) (by kernel_rfl) (fun _ _ _ h => h) (Or.inl ⟨by kernel_rfl, ?_⟩) ⟨y3, o1, o2⟩ ?_
        rotate_left
        · (rintro w ⟨s1, s2, s3⟩; go_simp; (first | done | rfl))
        try simp only [Act.put, List.getElem_toArray, List.getElem_cons_zero, List.getElem_cons_succ, List.setIfInBounds_toArray, List.set_cons_zero, List.set_cons_succ]
        refine wpAnyH_take (i := 5) (oi := _) (v := ?_) rfl (by kernel_rfl) (by kernel_rfl) (by kernel_rfl) (fun _ _ _ h => h) (Or.inl ⟨by kernel_rfl, ?_⟩) ⟨y3, o1, o2⟩ ?_
        rotate_left
        · (rintro w ⟨s1, s2, s3⟩; go_simp; (first | done | rfl))
        try simp only [Act.put, List.getElem_toArray, List.getElem_cons_zero, List.getElem_cons_succ, List.setIfInBounds_toArray, List.set_cons_zero, List.set_cons_succ]
        refine wpAnyH_take (i := 6) (oi := _) (v := ?_) rfl (by kernel_rfl) (by kernel_rfl) (by kernel_rfl) (fun _ _ _ h => h) (Or.inl ⟨by kernel_rfl, ?_⟩) ⟨y3, o1, o2⟩ ?_
        rotate_left
        · (rintro w ⟨s1, s2, s3⟩; go_simp; (first | done | rfl))
        try simp only [Act.put, List.getElem_toArray, List.getElem_cons_zero, List.getElem_cons_succ, List.setIfInBounds_toArray, List.set_cons_zero, List.set_cons_succ]
        refine wpAnyH_take (i := 7) (oi := _) (v := ?_) rfl (by kernel_rfl) (by kernel_rfl) (by kernel_rfl) (fun _ _ _ h => h) (Or.inl ⟨by kernel_rfl, ?_⟩) ⟨y3, o1, o2⟩ ?_
        rotate_left
        · (rintro w ⟨s1, s2, s3⟩; go_simp; (first | done | rfl))
        try simp only [Act.put, List.getElem_toArray, List.getElem_cons_zero, List.getElem_cons_succ, List.setIfInBounds_toArray, List.set_cons_zero, List.set_cons_succ]
        refine wpAnyH_take (i := 8) (oi := _) (v := ?_) rfl (by kernel_rfl) (by kernel_rfl) (by kernel_rfl) (fun _ _ _ h => h) (Or.inl ⟨by kernel_rfl, ?_⟩) ⟨y3, o1, o2⟩ ?_
        rotate_left
        · (rintro w ⟨s1, s2, s3⟩; go_simp; (first | done | rfl))
        try simp only [Act.put, List.getElem_toArray, List.getElem_cons_zero, List.getElem_cons_succ, List.setIfInBounds_toArray, List.set_cons_zero, List.set_cons_succ]
        refine wpAnyH_take (i := 9) (oi := _) (v := ?_) rfl (by kernel_rfl) (by kernel_rfl) (by kernel_rfl) (fun _ _ _ h => h) (Or.inl ⟨by kernel_rfl, ?_⟩) ⟨y3, o1, o2⟩ ?_
        rotate_left
        · (rintro w ⟨s1, s2, s3⟩; go_simp; (first | done | rfl))
        try simp only [Act.put, List.getElem_toArray, List.getElem_cons_zero, List.getElem_cons_succ, List.setIfInBounds_toArray, List.set_cons_zero, List.set_cons_succ]
        refine wpAnyH_take (i := 10) (oi := _) (v := ?_) rfl (by kernel_rfl) (by kernel_rfl) (by kernel_rfl) (fun _ _ _ h => h) (Or.inl ⟨by kernel_rfl, ?_⟩) ⟨y3, o1, o2⟩ ?_
        rotate_left
        · (rintro w ⟨s1, s2, s3⟩; go_simp; (first | done | rfl))
        try simp only [Act.put, List.getElem_toArray, List.getElem_cons_zero, List.getElem_cons_succ, List.setIfInBounds_toArray, List.set_cons_zero, List.set_cons_succ]
        refine wpAnyH_take (i := 11) (oi := _) (v := ?_) rfl (by kernel_rfl) (by kernel_rfl) (by kernel_rfl) (fun _ _ _ h => h) (Or.inl ⟨by kernel_rfl, ?_⟩) ⟨y3, o1, o2⟩ ?_
        rotate_left
        · (rintro w ⟨s1, s2, s3⟩; go_simp; (first | done | rfl))
        try simp only [Act.put, List.getElem_toArray, List.getElem_cons_zero, List.getElem_cons_succ, List.setIfInBounds_toArray, List.set_cons_zero, List.set_cons_succ]
        refine wpAnyH_take (i := 12) (oi := _) (v := ?_) rfl (by kernel_rfl) (by kernel_rfl) (by kernel_rfl) (fun _ _ _ h => h) (Or.inl ⟨by kernel_rfl, ?_⟩) ⟨y3, o1, o2⟩ ?_
        rotate_left
        · (rintro w ⟨s1, s2, s3⟩; go_simp; (first | done | rfl))
        try simp only [Act.put, List.getElem_toArray, List.getElem_cons_zero, List.getElem_cons_succ, List.setIfInBounds_toArray, List.set_cons_zero, List.set_cons_succ]
        refine wpAnyH_take (i := 13) (oi := _) (v := ?_) rfl (by kernel_rfl) (by kernel_rfl) (by kernel_rfl) (fun _ _ _ h => h) (Or.inl ⟨by kernel_rfl, ?_⟩) ⟨y3, o1, o2⟩ ?_
        rotate_left
        · (rintro w ⟨s1, s2, s3⟩; go_simp; (first | done | rfl))
        try simp only [Act.put, List.getElem_toArray, List.getElem_cons_zero, List.getElem_cons_succ, List.setIfInBounds_toArray, List.set_cons_zero, List.set_cons_succ]
        refine wpAnyH_take (i := 14) (oi := _) (v := ?_) rfl (by kernel_rfl) (by kernel_rfl) (by kernel_rfl) (fun _ _ _ h => h) (Or.inl ⟨by kernel_rfl, ?_⟩) ⟨y3, o1, o2⟩ ?_
        rotate_left
        · (rintro w ⟨s1, s2, s3⟩; go_simp; (first | done | rfl))
        try simp only [Act.put, List.getElem_toArray, List.getElem_cons_zero, List.getElem_cons_succ, List.setIfInBounds_toArray, List.set_cons_zero, List.set_cons_succ]
        refine wpAnyH_take (i := 15) (oi := _) (v := ?_) rfl (by kernel_rfl) (by kernel_rfl) (by kernel_rfl) (fun _ _ _ h => h) (Or.inl ⟨by kernel_rfl, ?_⟩) ⟨y3, o1, o2⟩ ?_
        rotate_left
        · (rintro w ⟨s1, s2, s3⟩; go_simp; (first | done | rfl))
        try simp only [Act.put, List.getElem_toArray, List.getElem_cons_zero, List.getElem_cons_succ, List.setIfInBounds_toArray, List.set_cons_zero, List.set_cons_succ]
        refine wpAnyH_take (i := 16) (oi := _) (v := ?_) rfl (by kernel_rfl) (by kernel_rfl) (by kernel_rfl) (fun _ _ _ h => h) (Or.inl ⟨by kernel_rfl, ?_⟩) ⟨y3, o1, o2⟩ ?_
        rotate_left
        · (rintro w ⟨s1, s2, s3⟩; go_simp; (first | done | rfl))
        try simp only [Act.put, List.getElem_toArray, List.getElem_cons_zero, List.getElem_cons_succ, List.setIfInBounds_toArray, List.set_cons_zero, List.set_cons_succ]
        refine wpAnyH_take (i := 17) (oi := _) (v := ?_) rfl (by kernel_rfl) (by kernel_rfl) (by kernel_rfl) (fun _ _ _ h => h) (Or.inl ⟨by kernel_rfl, ?_⟩) ⟨y3, o1, o2⟩ ?_
        rotate_left
        · (rintro w ⟨s1, s2, s3⟩; go_simp; (first | done | rfl))
        try simp only [Act.put, List.getElem_toArray, List.getElem_cons_zero, List.getElem_cons_succ, List.setIfInBounds_toArray, List.set_cons_zero, List.set_cons_succ]
        refine wpAnyH_take (i := 19) (oi := _) (v := ?_) rfl (by kernel_rfl) (by kernel_rfl) (by kernel_rfl) (fun _ _ _ h => h) (Or.inl ⟨by kernel_rfl, ?_⟩) ⟨y3, o1, o2⟩ ?_
        rotate_left
        · (rintro w ⟨s1, s2, s3⟩; go_simp; (first | done | rfl))
        try simp only [Act.put, List.getElem_toArray, List.getElem_cons_zero, List.getElem_cons_succ, List.setIfInBounds_toArray, List.set_cons_zero, List.set_cons_succ]
        refine wpAnyH_take (i := 20) (oi := _) (v := ?_) rfl (by kernel_rfl) (by kernel_rfl) (by kernel_rfl) (fun _ _ _ h => h) (Or.inl ⟨by kernel_rfl, ?_⟩) ⟨y3, o1, o2⟩ ?_
        rotate_left
        · (rintro w ⟨s1, s2, s3⟩; go_simp; (first | done | rfl))
        try simp only [Act.put, List.getElem_toArray, List.getElem_cons_zero, List.getElem_cons_succ, List.setIfInBounds_toArray, List.set_cons_zero, List.set_cons_succ]
        refine wpAnyH_ready (rs := [18]) (by kernel_rfl) (by simp) (AllReadyH.cons (o := _) rfl (fun K hK => ?_) AllReadyH.nil)
        rw [if_pos (by kernel_rfl)]
        refine wp_fn 33 _ _ rfl _ rfl enters_cs hS1 ?_
        rintro r w' ⟨rfl, rfl⟩
        refine ⟨_, rfl, ?_⟩
        refine hK.out _ _ ⟨y3, o1, o2⟩ (fun _ => ?_)
        clear hK K
        try simp only [Act.put, List.getElem_toArray, List.getElem_cons_zero, List.getElem_cons_succ, List.setIfInBounds_toArray, List.set_cons_zero, List.set_cons_succ]
        refine wpAnyH_ready (rs := [21]) (by kernel_rfl) (by simp) (AllReadyH.cons (o := _) rfl (fun K hK => ?_) AllReadyH.nil)
        rw [if_pos (by kernel_rfl)]
        refine wp_fn 34 _ _ rfl _ rfl enters_rs hD1 ?_
        rintro r w' ⟨rfl, rfl⟩
        refine ⟨_, rfl, ?_⟩
        refine hK.out _ _ ⟨y3, o1, o2⟩ (fun _ => ?_)
        clear hK K
        try simp only [Act.put, List.getElem_toArray, List.getElem_cons_zero, List.getElem_cons_succ, List.setIfInBounds_toArray, List.set_cons_zero, List.set_cons_succ]
        refine wpAnyH_take (i := 22) (oi := _) (v := ?_) rfl (by kernel_rfl) (by kernel_rfl) (by kernel_rfl) (fun _ _ _ h => h) (Or.inl ⟨by kernel_rfl, ?_⟩) ⟨y3, o1, o2⟩ ?_
        rotate_left
        · (rintro w ⟨s1, s2, s3⟩; go_simp; (first | done | rfl))
        try simp only [Act.put, List.getElem_toArray, List.getElem_cons_zero, List.getElem_cons_succ, List.setIfInBounds_toArray, List.set_cons_zero, List.set_cons_succ]
        refine wpAnyH_take (i := 23) (oi := _) (v := ?_) rfl (by kernel_rfl) (by kernel_rfl) (by kernel_rfl) (fun _ _ _ h => h) (Or.inl ⟨by kernel_rfl, ?_⟩) ⟨y3, o1, o2⟩ ?_
        rotate_left
        · (rintro w ⟨s1, s2, s3⟩; go_simp; (first | done | rfl))
        try simp only [Act.put, List.getElem_toArray, List.getElem_cons_zero, List.getElem_cons_succ, List.setIfInBounds_toArray, List.set_cons_zero, List.set_cons_succ]
        refine wpAnyH_take (i := 24) (oi := _) (v := ?_) rfl (by kernel_rfl) (by kernel_rfl) (by kernel_rfl) (fun _ _ _ h => h) (Or.inl ⟨by kernel_rfl, ?_⟩) ⟨y3, o1, o2⟩ ?_
        rotate_left
        · (rintro w ⟨s1, s2, s3⟩; go_simp; (first | done | rfl))
        try simp only [Act.put, List.getElem_toArray, List.getElem_cons_zero, List.getElem_cons_succ, List.setIfInBounds_toArray, List.set_cons_zero, List.set_cons_succ]
        refine wpAnyH_take (i := 25) (oi := _) (v := ?_) rfl (by kernel_rfl) (by kernel_rfl) (by kernel_rfl) (fun _ _ _ h => h) (Or.inl ⟨by kernel_rfl, ?_⟩) ⟨y3, o1, o2⟩ ?_
        rotate_left
        · (rintro w ⟨s1, s2, s3⟩; go_simp; (first | done | rfl))
        try simp only [Act.put, List.getElem_toArray, List.getElem_cons_zero, List.getElem_cons_succ, List.setIfInBounds_toArray, List.set_cons_zero, List.set_cons_succ]
        refine wpAnyH_take (i := 26) (oi := _) (v := ?_) rfl (by kernel_rfl) (by kernel_rfl) (by kernel_rfl) (fun _ _ _ h => h) (Or.inl ⟨by kernel_rfl, ?_⟩) ⟨y3, o1, o2⟩ ?_
        rotate_left
        · (rintro w ⟨s1, s2, s3⟩; go_simp; (first | done | rfl))
        try simp only [Act.put, List.getElem_toArray, List.getElem_cons_zero, List.getElem_cons_succ, List.setIfInBounds_toArray, List.set_cons_zero, List.set_cons_succ]
        refine wpAnyH_take (i := 28) (oi := _) (v := ?_) rfl (by kernel_rfl) (by kernel_rfl) (by kernel_rfl) (fun _ _ _ h => h) (Or.inl ⟨by kernel_rfl, ?_⟩) ⟨y3, o1, o2⟩ ?_
        rotate_left
        · (rintro w ⟨s1, s2, s3⟩; go_simp; (first | done | rfl))
        try simp only [Act.put, List.getElem_toArray, List.getElem_cons_zero, List.getElem_cons_succ, List.setIfInBounds_toArray, List.set_cons_zero, List.set_cons_succ]
        refine wpAnyH_ready (rs := [27]) (by kernel_rfl) (by simp) (AllReadyH.cons (o := _) rfl (fun K hK => ?_) AllReadyH.nil)
        rw [if_pos (by kernel_rfl)]
        refine wp_fn 33 _ _ rfl _ rfl enters_cs hS2 ?_
        rintro r w' ⟨rfl, rfl⟩
        refine ⟨_, rfl, ?_⟩
        refine hK.out _ _ ⟨y3, o1, o2⟩ (fun _ => ?_)
        clear hK K
        try simp only [Act.put, List.getElem_toArray, List.getElem_cons_zero, List.getElem_cons_succ, List.setIfInBounds_toArray, List.set_cons_zero, List.set_cons_succ]
        refine wpAnyH_ready (rs := [29]) (by kernel_rfl) (by simp) (AllReadyH.cons (o := _) rfl (fun K hK => ?_) AllReadyH.nil)
        rw [if_pos (by kernel_rfl)]
        refine wp_fn 34 _ _ rfl _ rfl enters_rs hD2 ?_
        rintro r w' ⟨rfl, rfl⟩
        refine ⟨_, rfl, ?_⟩
        refine hK.out _ _ ⟨y3, o1, o2⟩ (fun _ => ?_)
        clear hK K
        try simp only [Act.put, List.getElem_toArray, List.getElem_cons_zero, List.getElem_cons_succ, List.setIfInBounds_toArray, List.set_cons_zero, List.set_cons_succ]
        refine wpAnyH_take (i := 30) (oi := _) (v := ?_) rfl (by kernel_rfl) (by kernel_rfl) (by kernel_rfl) (fun _ _ _ h => h) (Or.inl ⟨by kernel_rfl, ?_⟩) ⟨y3, o1, o2⟩ ?_
        rotate_left
        · (rintro w ⟨s1, s2, s3⟩; go_simp; (first | done | rfl))
        try simp only [Act.put, List.getElem_toArray, List.getElem_cons_zero, List.getElem_cons_succ, List.setIfInBounds_toArray, List.set_cons_zero, List.set_cons_succ]
        refine wpAnyH_take (i := 31) (oi := _) (v := ?_) rfl (by kernel_rfl) (by kernel_rfl) (by kernel_rfl) (fun _ _ _ h => h) (Or.inl ⟨by kernel_rfl, ?_⟩) ⟨y3, o1, o2⟩ ?_
        rotate_left
        · (rintro w ⟨s1, s2, s3⟩; go_simp; (first | done | rfl))
        try simp only [Act.put, List.getElem_toArray, List.getElem_cons_zero, List.getElem_cons_succ, List.setIfInBounds_toArray, List.set_cons_zero, List.set_cons_succ]
        refine wpAnyH_done (by kernel_rfl) ?_ _
        refine NoPanic.normal ?_
        go_wp2
        go_roundw
        case rel => exact ⟨i + 1, s6, (fun k => k = gd), by omega, by go_num, hT7.keep (below_drew (Below.refl _ _)), below_drew hB7⟩
        case measure => simp [intOf]; omega
      · have t0 : ((xk : Int) % 5 == 0) = false := by rw [mod5 cq]; decide
        have t1 : ((xk : Int) % 5 == 1) = false := by rw [mod5 cq]; decide
        have t2 : ((xk : Int) % 5 == 2) = false := by rw [mod5 cq]; decide
        have t3 : ((xk : Int) % 5 == 3) = false := by rw [mod5 cq]; decide
        clear cq
        have d1 : (w4).cell? ⟨gd, 1, none⟩ = some (.int .i64 xa) := e1
        have d2 : (w4).cell? ⟨gd, 2, none⟩ = some (.int .i64 xn) := e2
        have d3 : (w4).cell? ⟨gd, 3, none⟩ = some (.int .i64 xi) := e3
        have hT4d : Tw w4 a b (fun k => k = gd) s s := hT4
        have hB4d : Below a w w4 := hB4
        obtain ⟨s6, hs6⟩ : ∃ q, crS s = q := ⟨_, rfl⟩
        have hO1 := tw_c hT4d (fun Uc hC => ccrash_ w4 a Uc s hC)
        have hO2 : ∀ W, Tw W a b (fun k => k = gd) (crS s) s → _ := fun W hT => tw_r hT (fun Ur hR => rcrash_ W b Ur s hR hFew.out.2)
        rw [hs6] at hO1
        simp only [hs6] at hO2
        clear hs6
        go_wp2_with fail
        rw [Hw4.out, Hgd.out]
        refine hO1.mono ?_
        rintro r w5 ⟨rfl, hT5, hK5, hB5⟩
        have u3 := hK5 _ _ rfl d3
        clear Hw4 Hgd hT4
        go_wp2_with fail
        refine (hO2 _ hT5).mono ?_
        rintro r w6 ⟨rfl, hT6, hK6, hB6⟩
        have v3 := hK6 _ _ rfl u3
        have hB6 : Below a w w6 := (hB4d.trans hB5).trans hB6
        clear hO1 hO2 hT5 hK5 hK6 hB5 hB4 hB4d
        obtain ⟨Uc6, Ur6, hX6⟩ := hT6
        have hC6 := hX6.c
        have hR6 := hX6.r
        have hT6 : Tw w6 a b (fun k => k = gd) s6 s6 := ⟨Uc6, Ur6, hX6⟩
        have hph6 := (phase_ w6 a Uc6 s6 hC6)
        clear hX6
        go_wp2_with fail
        refine hph6.mono ?_
        rintro r w7 ⟨rfl, k7, rfl⟩
        have hC7 : Cd (w6.drewN k7) a Uc6 s6 := hC6.fu (S := fun _ => False) ((Fu.refl _ _).drewN _) (fun _ _ e => e) (fun e => e) (fun e => e)
        have hR7 : Rc (w6.drewN k7) b Ur6 s6 := hR6.drewN _
        have hT7 : Tw (w6.drewN k7) a b (fun k => k = gd) s6 s6 := hT6.keep (below_drewN (Below.refl _ _) _)
        have hB7 : Below a w (w6.drewN k7) := below_drewN hB6 _
        have y3 : (w6.drewN k7).cell? ⟨gd, 3, none⟩ = some (.int .i64 xi) := v3
        clear hC6 hR6 hT6 hB6 hph6
        generalize w6.drewN k7 = w7 at *
        obtain ⟨m1, hm1⟩ : ∃ q, stC s6 xi = q := ⟨_, rfl⟩
        obtain ⟨m2, hm2⟩ : ∃ q, stC s6 x = q := ⟨_, rfl⟩
        have hS1 : Calls Try.prog 33 #[.pointer (some ⟨a + 1, 0, none⟩), .int .i64 xi] w7.drew fun r w' => r = .returned (.int .i64 m1) ∧ w7.drew = w' := hm1 ▸ state_ w7.drew a Uc6 s6 (hC7.fu (S := fun _ => False) ((Fu.refl _ _).drew) (fun _ _ e => e) (fun e => e) (fun e => e)) xi hid
        have hS2 : Calls Try.prog 33 #[.pointer (some ⟨a + 1, 0, none⟩), .int .i64 x] w7.drew fun r w' => r = .returned (.int .i64 m2) ∧ w7.drew = w' := hm2 ▸ state_ w7.drew a Uc6 s6 (hC7.fu (S := fun _ => False) ((Fu.refl _ _).drew) (fun _ _ e => e) (fun e => e) (fun e => e)) x hx
        have hD1 : Calls Try.prog 34 #[.pointer (some ⟨b, 0, none⟩), .int .i64 xi] w7.drew fun r w' => r = .returned (.int .i64 m1) ∧ w7.drew = w' := hm1 ▸ rstate_ w7.drew b Ur6 s6 (hR7.keep (below_drew (Below.refl _ _))) xi
        have hD2 : Calls Try.prog 34 #[.pointer (some ⟨b, 0, none⟩), .int .i64 x] w7.drew fun r w' => r = .returned (.int .i64 m2) ∧ w7.drew = w' := hm2 ▸ rstate_ w7.drew b Ur6 s6 (hR7.keep (below_drew (Below.refl _ _))) x
        obtain ⟨g7, A1, k1, c1, A2, k2, c2, hX7⟩ := hR7
        obtain ⟨-, o1, o2, -, -⟩ := hX7.cells
        obtain ⟨y1, hy1⟩ : ∃ q, s6.ph = q := ⟨_, rfl⟩
        obtain ⟨y2, hy2⟩ : ∃ q, s6.id = q := ⟨_, rfl⟩
        rw [hy1] at o1 ⊢
        rw [hy2] at o2 ⊢
        have n1 : (y1 != y1) = false := by simp
        have n2 : (y2 != y2) = false := by simp
        have n3 : (m1 != m1) = false := by simp
        have n4 : (m2 != m2) = false := by simp
        clear hm1 hm2 hy1 hy2 hX7 hC7
        go_wp2_with fail
        refine wp_region_noPanic ?_
        refine wp_region_held_drew (S := (fun w' => w'.cell? ⟨gd, 3, none⟩ = some (.int .i64 xi) ∧ w'.cell? ⟨b, 1, none⟩ = some (.int .i64 y1) ∧ w'.cell? ⟨b, 2, none⟩ = some (.int .i64 y2))) (by kernel_rfl) ⟨y3, o1, o2⟩ (fun _ => ?_)
        refine wpAnyH_take (i := 0) (oi := _) (v := ?_) rfl (by kernel_rfl) (by kernel_rfl) (by kernel_rfl) (fun _ _ _ h => h) (Or.inl ⟨by kernel_rfl, ?_⟩) ⟨y3, o1, o2⟩ ?_
        rotate_left
        · (rintro w ⟨s1, s2, s3⟩; go_simp; (first | done | rfl))
        try simp only [Act.put, List.getElem_toArray, List.getElem_cons_zero, List.getElem_cons_succ, List.setIfInBounds_toArray, List.set_cons_zero, List.set_cons_succ]
        refine wpAnyH_take (i := 1) (oi := _) (v := ?_) rfl (by kernel_rfl) (by kernel_rfl) (by kernel_rfl) (fun _ _ _ h => h) (Or.inl ⟨by kernel_rfl, ?_⟩) ⟨y3, o1, o2⟩ ?_
        rotate_left
        · (rintro w ⟨s1, s2, s3⟩; go_simp; (first | done | rfl))
        try simp only [Act.put, List.getElem_toArray, List.getElem_cons_zero, List.getElem_cons_succ, List.setIfInBounds_toArray, List.set_cons_zero, List.set_cons_succ]
        refine wpAnyH_take (i := 2) (oi := _) (v := ?_) rfl (by kernel_rfl) (by kernel_rfl) (by kernel_rfl) (fun _ _ _ h => h) (Or.inl ⟨by kernel_rfl, ?_⟩) ⟨y3, o1, o2⟩ ?_
        rotate_left
        · (rintro w ⟨s1, s2, s3⟩; go_simp; (first | done | rfl))
        try simp only [Act.put, List.getElem_toArray, List.getElem_cons_zero, List.getElem_cons_succ, List.setIfInBounds_toArray, List.set_cons_zero, List.set_cons_succ]
        refine wpAnyH_take (i := 3) (oi := _) (v := ?_) rfl (by kernel_rfl) (by kernel_rfl) (by kernel_rfl) (fun _ _ _ h => h) (Or.inl ⟨by kernel_rfl, ?_⟩) ⟨y3, o1, o2⟩ ?_
        rotate_left
        · (rintro w ⟨s1, s2, s3⟩; go_simp; (first | done | rfl))
        try simp only [Act.put, List.getElem_toArray, List.getElem_cons_zero, List.getElem_cons_succ, List.setIfInBounds_toArray, List.set_cons_zero, List.set_cons_succ]
        refine wpAnyH_take (i := 4) (oi := _) (v := ?_) rfl (by kernel_rfl) (by kernel_rfl) (by kernel_rfl) (fun _ _ _ h => h) (Or.inl ⟨by kernel_rfl, ?_⟩) ⟨y3, o1, o2⟩ ?_
        rotate_left
        · (rintro w ⟨s1, s2, s3⟩; go_simp; (first | done | rfl))
        try simp only [Act.put, List.getElem_toArray, List.getElem_cons_zero, List.getElem_cons_succ, List.setIfInBounds_toArray, List.set_cons_zero, List.set_cons_succ]
        refine wpAnyH_take (i := 5) (oi := _) (v := ?_) rfl (by kernel_rfl) (by kernel_rfl) (by kernel_rfl) (fun _ _ _ h => h) (Or.inl ⟨by kernel_rfl, ?_⟩) ⟨y3, o1, o2⟩ ?_
        rotate_left
        · (rintro w ⟨s1, s2, s3⟩; go_simp; (first | done | rfl))
        try simp only [Act.put, List.getElem_toArray, List.getElem_cons_zero, List.getElem_cons_succ, List.setIfInBounds_toArray, List.set_cons_zero, List.set_cons_succ]
        refine wpAnyH_take (i := 6) (oi := _) (v := ?_) rfl (by kernel_rfl) (by kernel_rfl) (by kernel_rfl) (fun _ _ _ h => h) (Or.inl ⟨by kernel_rfl, ?_⟩) ⟨y3, o1, o2⟩ ?_
        rotate_left
        · (rintro w ⟨s1, s2, s3⟩; go_simp; (first | done | rfl))
        try simp only [Act.put, List.getElem_toArray, List.getElem_cons_zero, List.getElem_cons_succ, List.setIfInBounds_toArray, List.set_cons_zero, List.set_cons_succ]
        refine wpAnyH_take (i := 7) (oi := _) (v := ?_) rfl (by kernel_rfl) (by kernel_rfl) (by kernel_rfl) (fun _ _ _ h => h) (Or.inl ⟨by kernel_rfl, ?_⟩) ⟨y3, o1, o2⟩ ?_
        rotate_left
        · (rintro w ⟨s1, s2, s3⟩; go_simp; (first | done | rfl))
        try simp only [Act.put, List.getElem_toArray, List.getElem_cons_zero, List.getElem_cons_succ, List.setIfInBounds_toArray, List.set_cons_zero, List.set_cons_succ]
        refine wpAnyH_take (i := 8) (oi := _) (v := ?_) rfl (by kernel_rfl) (by kernel_rfl) (by kernel_rfl) (fun _ _ _ h => h) (Or.inl ⟨by kernel_rfl, ?_⟩) ⟨y3, o1, o2⟩ ?_
        rotate_left
        · (rintro w ⟨s1, s2, s3⟩; go_simp; (first | done | rfl))
        try simp only [Act.put, List.getElem_toArray, List.getElem_cons_zero, List.getElem_cons_succ, List.setIfInBounds_toArray, List.set_cons_zero, List.set_cons_succ]
        refine wpAnyH_take (i := 9) (oi := _) (v := ?_) rfl (by kernel_rfl) (by kernel_rfl) (by kernel_rfl) (fun _ _ _ h => h) (Or.inl ⟨by kernel_rfl, ?_⟩) ⟨y3, o1, o2⟩ ?_
        rotate_left
        · (rintro w ⟨s1, s2, s3⟩; go_simp; (first | done | rfl))
        try simp only [Act.put, List.getElem_toArray, List.getElem_cons_zero, List.getElem_cons_succ, List.setIfInBounds_toArray, List.set_cons_zero, List.set_cons_succ]
        refine wpAnyH_take (i := 10) (oi := _) (v := ?_) rfl (by kernel_rfl) (by kernel_rfl) (by kernel_rfl) (fun _ _ _ h => h) (Or.inl ⟨by kernel_rfl, ?_⟩) ⟨y3, o1, o2⟩ ?_
        rotate_left
        · (rintro w ⟨s1, s2, s3⟩; go_simp; (first | done | rfl))
        try simp only [Act.put, List.getElem_toArray, List.getElem_cons_zero, List.getElem_cons_succ, List.setIfInBounds_toArray, List.set_cons_zero, List.set_cons_succ]
        refine wpAnyH_take (i := 11) (oi := _) (v := ?_) rfl (by kernel_rfl) (by kernel_rfl) (by kernel_rfl) (fun _ _ _ h => h) (Or.inl ⟨by kernel_rfl, ?_⟩) ⟨y3, o1, o2⟩ ?_
        rotate_left
        · (rintro w ⟨s1, s2, s3⟩; go_simp; (first | done | rfl))
        try simp only [Act.put, List.getElem_toArray, List.getElem_cons_zero, List.getElem_cons_succ, List.setIfInBounds_toArray, List.set_cons_zero, List.set_cons_succ]
        refine wpAnyH_take (i := 12) (oi := _) (v := ?_) rfl (by kernel_rfl) (by kernel_rfl) (by kernel_rfl) (fun _ _ _ h => h) (Or.inl ⟨by kernel_rfl, ?_⟩) ⟨y3, o1, o2⟩ ?_
        rotate_left
        · (rintro w ⟨s1, s2, s3⟩; go_simp; (first | done | rfl))
        try simp only [Act.put, List.getElem_toArray, List.getElem_cons_zero, List.getElem_cons_succ, List.setIfInBounds_toArray, List.set_cons_zero, List.set_cons_succ]
        refine wpAnyH_take (i := 13) (oi := _) (v := ?_) rfl (by kernel_rfl) (by kernel_rfl) (by kernel_rfl) (fun _ _ _ h => h) (Or.inl ⟨by kernel_rfl, ?_⟩) ⟨y3, o1, o2⟩ ?_
        rotate_left
        · (rintro w ⟨s1, s2, s3⟩; go_simp; (first | done | rfl))
        try simp only [Act.put, List.getElem_toArray, List.getElem_cons_zero, List.getElem_cons_succ, List.setIfInBounds_toArray, List.set_cons_zero, List.set_cons_succ]
        refine wpAnyH_take (i := 14) (oi := _) (v := ?_) rfl (by kernel_rfl) (by kernel_rfl) (by kernel_rfl) (fun _ _ _ h => h) (Or.inl ⟨by kernel_rfl, ?_⟩) ⟨y3, o1, o2⟩ ?_
        rotate_left
        · (rintro w ⟨s1, s2, s3⟩; go_simp; (first | done | rfl))
        try simp only [Act.put, List.getElem_toArray, List.getElem_cons_zero, List.getElem_cons_succ, List.setIfInBounds_toArray, List.set_cons_zero, List.set_cons_succ]
        refine wpAnyH_take (i := 15) (oi := _) (v := ?_) rfl (by kernel_rfl) (by kernel_rfl) (by kernel_rfl) (fun _ _ _ h => h) (Or.inl ⟨by kernel_rfl, ?_⟩) ⟨y3, o1, o2⟩ ?_
        rotate_left
        · (rintro w ⟨s1, s2, s3⟩; go_simp; (first | done | rfl))
        try simp only [Act.put, List.getElem_toArray, List.getElem_cons_zero, List.getElem_cons_succ, List.setIfInBounds_toArray, List.set_cons_zero, List.set_cons_succ]
        refine wpAnyH_take (i := 16) (oi := _) (v := ?_) rfl (by kernel_rfl) (by kernel_rfl) (by kernel_rfl) (fun _ _ _ h => h) (Or.inl ⟨by kernel_rfl, ?_⟩) ⟨y3, o1, o2⟩ ?_
        rotate_left
        · (rintro w ⟨s1, s2, s3⟩; go_simp; (first | done | rfl))
        try simp only [Act.put, List.getElem_toArray, List.getElem_cons_zero, List.getElem_cons_succ, List.setIfInBounds_toArray, List.set_cons_zero, List.set_cons_succ]
        refine wpAnyH_take (i := 17) (oi := _) (v := ?_) rfl (by kernel_rfl) (by kernel_rfl) (by kernel_rfl) (fun _ _ _ h => h) (Or.inl ⟨by kernel_rfl, ?_⟩) ⟨y3, o1, o2⟩ ?_
        rotate_left
        · (rintro w ⟨s1, s2, s3⟩; go_simp; (first | done | rfl))
        try simp only [Act.put, List.getElem_toArray, List.getElem_cons_zero, List.getElem_cons_succ, List.setIfInBounds_toArray, List.set_cons_zero, List.set_cons_succ]
        refine wpAnyH_take (i := 19) (oi := _) (v := ?_) rfl (by kernel_rfl) (by kernel_rfl) (by kernel_rfl) (fun _ _ _ h => h) (Or.inl ⟨by kernel_rfl, ?_⟩) ⟨y3, o1, o2⟩ ?_
        rotate_left
        · (rintro w ⟨s1, s2, s3⟩; go_simp; (first | done | rfl))
        try simp only [Act.put, List.getElem_toArray, List.getElem_cons_zero, List.getElem_cons_succ, List.setIfInBounds_toArray, List.set_cons_zero, List.set_cons_succ]
        refine wpAnyH_take (i := 20) (oi := _) (v := ?_) rfl (by kernel_rfl) (by kernel_rfl) (by kernel_rfl) (fun _ _ _ h => h) (Or.inl ⟨by kernel_rfl, ?_⟩) ⟨y3, o1, o2⟩ ?_
        rotate_left
        · (rintro w ⟨s1, s2, s3⟩; go_simp; (first | done | rfl))
        try simp only [Act.put, List.getElem_toArray, List.getElem_cons_zero, List.getElem_cons_succ, List.setIfInBounds_toArray, List.set_cons_zero, List.set_cons_succ]
        refine wpAnyH_ready (rs := [18]) (by kernel_rfl) (by simp) (AllReadyH.cons (o := _) rfl (fun K hK => ?_) AllReadyH.nil)
        rw [if_pos (by kernel_rfl)]
        refine wp_fn 33 _ _ rfl _ rfl enters_cs hS1 ?_
        rintro r w' ⟨rfl, rfl⟩
        refine ⟨_, rfl, ?_⟩
        refine hK.out _ _ ⟨y3, o1, o2⟩ (fun _ => ?_)
        clear hK K
        try simp only [Act.put, List.getElem_toArray, List.getElem_cons_zero, List.getElem_cons_succ, List.setIfInBounds_toArray, List.set_cons_zero, List.set_cons_succ]
        refine wpAnyH_ready (rs := [21]) (by kernel_rfl) (by simp) (AllReadyH.cons (o := _) rfl (fun K hK => ?_) AllReadyH.nil)
        rw [if_pos (by kernel_rfl)]
        refine wp_fn 34 _ _ rfl _ rfl enters_rs hD1 ?_
        rintro r w' ⟨rfl, rfl⟩
        refine ⟨_, rfl, ?_⟩
        refine hK.out _ _ ⟨y3, o1, o2⟩ (fun _ => ?_)
        clear hK K
        try simp only [Act.put, List.getElem_toArray, List.getElem_cons_zero, List.getElem_cons_succ, List.setIfInBounds_toArray, List.set_cons_zero, List.set_cons_succ]
        refine wpAnyH_take (i := 22) (oi := _) (v := ?_) rfl (by kernel_rfl) (by kernel_rfl) (by kernel_rfl) (fun _ _ _ h => h) (Or.inl ⟨by kernel_rfl, ?_⟩) ⟨y3, o1, o2⟩ ?_
        rotate_left
        · (rintro w ⟨s1, s2, s3⟩; go_simp; (first | done | rfl))
        try simp only [Act.put, List.getElem_toArray, List.getElem_cons_zero, List.getElem_cons_succ, List.setIfInBounds_toArray, List.set_cons_zero, List.set_cons_succ]
        refine wpAnyH_take (i := 23) (oi := _) (v := ?_) rfl (by kernel_rfl) (by kernel_rfl) (by kernel_rfl) (fun _ _ _ h => h) (Or.inl ⟨by kernel_rfl, ?_⟩) ⟨y3, o1, o2⟩ ?_
        rotate_left
        · (rintro w ⟨s1, s2, s3⟩; go_simp; (first | done | rfl))
        try simp only [Act.put, List.getElem_toArray, List.getElem_cons_zero, List.getElem_cons_succ, List.setIfInBounds_toArray, List.set_cons_zero, List.set_cons_succ]
        refine wpAnyH_take (i := 24) (oi := _) (v := ?_) rfl (by kernel_rfl) (by kernel_rfl) (by kernel_rfl) (fun _ _ _ h => h) (Or.inl ⟨by kernel_rfl, ?_⟩) ⟨y3, o1, o2⟩ ?_
        rotate_left
        · (rintro w ⟨s1, s2, s3⟩; go_simp; (first | done | rfl))
        try simp only [Act.put, List.getElem_toArray, List.getElem_cons_zero, List.getElem_cons_succ, List.setIfInBounds_toArray, List.set_cons_zero, List.set_cons_succ]
        refine wpAnyH_take (i := 25) (oi := _) (v := ?_) rfl (by kernel_rfl) (by kernel_rfl) (by kernel_rfl) (fun _ _ _ h => h) (Or.inl ⟨by kernel_rfl, ?_⟩) ⟨y3, o1, o2⟩ ?_
        rotate_left
        · (rintro w ⟨s1, s2, s3⟩; go_simp; (first | done | rfl))
        try simp only [Act.put, List.getElem_toArray, List.getElem_cons_zero, List.getElem_cons_succ, List.setIfInBounds_toArray, List.set_cons_zero, List.set_cons_succ]
        refine wpAnyH_take (i := 26) (oi := _) (v := ?_) rfl (by kernel_rfl) (by kernel_rfl) (by kernel_rfl) (fun _ _ _ h => h) (Or.inl ⟨by kernel_rfl, ?_⟩) ⟨y3, o1, o2⟩ ?_
        rotate_left
        · (rintro w ⟨s1, s2, s3⟩; go_simp; (first | done | rfl))
        try simp only [Act.put, List.getElem_toArray, List.getElem_cons_zero, List.getElem_cons_succ, List.setIfInBounds_toArray, List.set_cons_zero, List.set_cons_succ]
        refine wpAnyH_take (i := 28) (oi := _) (v := ?_) rfl (by kernel_rfl) (by kernel_rfl) (by kernel_rfl) (fun _ _ _ h => h) (Or.inl ⟨by kernel_rfl, ?_⟩) ⟨y3, o1, o2⟩ ?_
        rotate_left
        · (rintro w ⟨s1, s2, s3⟩; go_simp; (first | done | rfl))
        try simp only [Act.put, List.getElem_toArray, List.getElem_cons_zero, List.getElem_cons_succ, List.setIfInBounds_toArray, List.set_cons_zero, List.set_cons_succ]
        refine wpAnyH_ready (rs := [27]) (by kernel_rfl) (by simp) (AllReadyH.cons (o := _) rfl (fun K hK => ?_) AllReadyH.nil)
        rw [if_pos (by kernel_rfl)]
        refine wp_fn 33 _ _ rfl _ rfl enters_cs hS2 ?_
        rintro r w' ⟨rfl, rfl⟩
        refine ⟨_, rfl, ?_⟩
        refine hK.out _ _ ⟨y3, o1, o2⟩ (fun _ => ?_)
        clear hK K
        try simp only [Act.put, List.getElem_toArray, List.getElem_cons_zero, List.getElem_cons_succ, List.setIfInBounds_toArray, List.set_cons_zero, List.set_cons_succ]
        refine wpAnyH_ready (rs := [29]) (by kernel_rfl) (by simp) (AllReadyH.cons (o := _) rfl (fun K hK => ?_) AllReadyH.nil)
        rw [if_pos (by kernel_rfl)]
        refine wp_fn 34 _ _ rfl _ rfl enters_rs hD2 ?_
        rintro r w' ⟨rfl, rfl⟩
        refine ⟨_, rfl, ?_⟩
        refine hK.out _ _ ⟨y3, o1, o2⟩ (fun _ => ?_)
        clear hK K
        try simp only [Act.put, List.getElem_toArray, List.getElem_cons_zero, List.getElem_cons_succ, List.setIfInBounds_toArray, List.set_cons_zero, List.set_cons_succ]
        refine wpAnyH_take (i := 30) (oi := _) (v := ?_) rfl (by kernel_rfl) (by kernel_rfl) (by kernel_rfl) (fun _ _ _ h => h) (Or.inl ⟨by kernel_rfl, ?_⟩) ⟨y3, o1, o2⟩ ?_
        rotate_left
        · (rintro w ⟨s1, s2, s3⟩; go_simp; (first | done | rfl))
        try simp only [Act.put, List.getElem_toArray, List.getElem_cons_zero, List.getElem_cons_succ, List.setIfInBounds_toArray, List.set_cons_zero, List.set_cons_succ]
        refine wpAnyH_take (i := 31) (oi := _) (v := ?_) rfl (by kernel_rfl) (by kernel_rfl) (by kernel_rfl) (fun _ _ _ h => h) (Or.inl ⟨by kernel_rfl, ?_⟩) ⟨y3, o1, o2⟩ ?_
        rotate_left
        · (rintro w ⟨s1, s2, s3⟩; go_simp; (first | done | rfl))
        try simp only [Act.put, List.getElem_toArray, List.getElem_cons_zero, List.getElem_cons_succ, List.setIfInBounds_toArray, List.set_cons_zero, List.set_cons_succ]
        refine wpAnyH_done (by kernel_rfl) ?_ _
        refine NoPanic.normal ?_
        go_wp2
        go_roundw
        case rel => exact ⟨i + 1, s6, (fun k => k = gd), by omega, by go_num, hT7.keep (below_drew (Below.refl _ _)), below_drew hB7⟩
        case measure => simp [intOf]; omega
    · have he : i = n := by omega
      subst he
      have hil : ¬ (i : Int) < (i : Int) := by omega
      clear hT
      go_wp2
      go_ret
      first
        | exact ⟨rfl, hB⟩
        | exact ⟨rfl, by rw [Ha.out]; exact hB⟩
end
end Bar
open Bar

set_option maxRecDepth 100000 in
theorem barrierCoords_lifted (os : Os) (started : os.Started) (H : Type) (enc : TypeId × Value → H) :
    ReturnsInHanded {} Try.checked os 4 .any (Rows.barrierCoordsSpec.pre6 enc Try.prog Try.f4 Rows.barrierCoordsRow.domain false) (Rows.barrierCoordsSpec.post enc Try.prog Try.f4 false true false false) := by
  refine law_lifted (C := Try.checked) (tb := 4) own_ started (by kernel_rfl) Try.func4
    (ChangeSpec.witness6 (enc := enc) (C := Try.checked) false ⟨#[], #[.int .i64 0, .slice none 0 0, .int .i64 0], []⟩ 8 (by kernel_rfl) (by kernel_rfl) (by kernel_rfl) (by kernel_rfl))
    rfl rfl Try.underlying4 laidOut_ (by kernel_rfl) (fun ds h => by match ds, h with | [_, _, _], _ => rfl) ?_
  intro W base args ds p hval0 hA0 _ hsz0
  have hval : ∀ (j : Nat) t v, Try.f4.params[j]? = some t → args[j]? = some v → Value.okWide Try.prog W .any base t v := hval0
  have hA : DataW.TrodAll enc Try.prog W 0 (fun _ => true) true Try.f4.params.toList args.toList ds p := hA0
  have hsz : (DataW.weightsEach Try.prog Try.f4.params.toList ds).all (· ≤ reachBytes) = true := hsz0
  clear hval0 hA0 hsz0
  rw [Try.params4] at hA hval hsz
  obtain ⟨v0, v1, v2, d0, d1, d2, p0, p1, p2, rfl, rfl, rfl, h0, h1, h2⟩ := trodAll_three hA
  obtain ⟨z0, rfl, hz0⟩ := arg_int _ _ Try.underlying3 (hval 0 _ v0 rfl rfl) h0 wf_i64
  obtain ⟨A1, n1, c1, xs1, rfl, r1, b1⟩ := arg_slice ops_calls Try.underlying36 (hval 1 _ v1 rfl rfl) h1 (weight_at hsz (j := 1) rfl rfl)
  obtain ⟨z2, rfl, hz2⟩ := arg_int _ _ Try.underlying3 (hval 2 _ v2 rfl rfl) h2 wf_i64
  exact by
    obtain ⟨ha, hnc, hc⟩ := calls_of r1
    by_cases hz : 1 ≤ z0 ∧ z0 ≤ 16
    · obtain ⟨q, rfl⟩ : ∃ q : Nat, z0 = (q : Int) := ⟨z0.toNat, by omega⟩
      exact coords_walk W q (by omega) (by omega) A1 n1 c1 _ ha hnc hc z2 hz2
    · exact coords_bad W z0 (by omega) A1 n1 c1 z2

/-- BarrierCoords, for every input: the statement as it was given. -/
theorem barrierCoords_holds : Rows.BarrierCoordsSaid :=
  OpenClaim.holds_of_wide 4 Try.f4 rfl rfl rfl rfl rfl rfl rfl ⟨rfl, rfl, rfl, rfl, rfl⟩ rfl rfl rfl rfl rfl (by kernel_rfl) Try.func4 (by kernel_rfl)
    (of_decide_eq_true (by kernel_rfl)) (by unfold Func.isWrapper; first | (rw [if_pos (by decide +kernel)]; kernel_rfl) | (rw [if_neg (by decide +kernel)]; exact ⟨rfl, rfl⟩))
    (fun os started H enc _ => barrierCoords_lifted os started H enc)
end Go.Proofs.Ytpjbeodnalgkfaa
