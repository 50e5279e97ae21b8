/- Layer 17: one agent commits (alive). -/
import Derived.Test.YtpjbeodnalgkfaaBarH
set_option linter.all false
namespace Go.Proofs.Ytpjbeodnalgkfaa
open Go.RowKit
namespace Bar
def alC : Nat → Co
  | 0 => ⟨[false], 1, 1, [], []⟩
  | 1 => ⟨[false], 2, 1, [], []⟩
  | 2 => ⟨[false], 3, 1, [], []⟩
  | _ => ⟨[false], 0, 0, [1], []⟩
def alA : Nat → Ag
  | 0 => ⟨0, 0, []⟩
  | 1 => ⟨1, 0, []⟩
  | 2 => ⟨1, 1, []⟩
  | _ => ⟨0, 0, [1]⟩
theorem al_step {i : Nat} (h : i < 3) : ∃ K R : Int, stepL (alC i) = [⟨0, K, 1⟩] ∧ ordK (alA i) K 1 = R ∧ ordS (alA i) K 1 = alA (i + 1) ∧ hearS (alC i) 0 R 1 = alC (i + 1) := by
  match i, h with
  | 0, _ => exact ⟨1, 11, rfl, rfl, rfl, rfl⟩
  | 1, _ => exact ⟨2, 12, rfl, rfl, rfl, rfl⟩
  | 2, _ => exact ⟨3, 13, rfl, rfl, rfl, rfl⟩
theorem al_beg : begE (co0 1) 1 = 0 ∧ begS (co0 1) 1 = alC 0 := ⟨rfl, rfl⟩
theorem al_len (i : Nat) : (alA i).cm.length ≤ 1 := by
  unfold alA
  split <;> simp
theorem al_end : stC (alC 3) 1 = 2 ∧ cmB (alA 3) 1 = true ∧ (alA 3).fz = 0 ∧ (alC 3).ph = 0 ∧ (alC 3).id = 0 := ⟨rfl, rfl, rfl, rfl, rfl⟩
theorem own_mono {w : World} {B B' : Nat} {e : TypeId} {sz n : Nat} {v : Value} {xs : List Value} (h : w.ownsRow B e sz v n xs) (hb : B' ≤ B) : w.ownsRow B' e sz v n xs := by
  refine ⟨h.1, ?_⟩
  rcases h.2 with h2 | ⟨g, cap, cur, hv, hg, r⟩
  · exact .inl h2
  · exact .inr ⟨g, cap, cur, hv, by omega, r⟩
section
variable (w : World)
set_option maxRecDepth 100000 in
set_option maxHeartbeats 4000000 in
theorem alive_ : Calls Try.prog 11 #[] w fun r w' => r = .returned (.bool true) ∧ Below w.heap.size w w' := by
  go_enter Try.func11, Try.ntmps11
  go_wp2_with fail
  refine (cnew_ w 1 (by omega) (by omega)).mono ?_
  rintro r w1 ⟨rfl, hC1, hb1, hs1⟩
  obtain ⟨a, ha⟩ : ∃ a, w.heap.size = a := ⟨_, rfl⟩
  have Ha := Lib.hid ha
  rw [ha] at hC1 hb1 hs1 ⊢
  go_wp2_with fail
  refine (anew_ w1).mono ?_
  rw [hs1]
  rintro r w2 ⟨rfl, hA2, hb2, hs2⟩
  have hC2 : Cd w2 a (fun k => a + 4 ≤ k) (co0 1) := (hC1.keep (by rw [hs1]; exact hb2)).sub (fun k hk _ => hk.elim) ⟨by omega, by omega⟩
  have hB2 : Below a w w2 := hb1.trans (hb2.mono (by omega))
  clear hC1 hb1 hb2 hs1 ha
  have hBg := begin_ w2 a _ (co0 1) hC2 1 (by unfold I64; omega)
  rw [al_beg.1, al_beg.2] at hBg
  go_wp2_with fail
  refine hBg.mono ?_
  rintro r w3 ⟨rfl, hC3, hF3⟩
  have hA3 := hA2.fu hF3 (by omega) (by omega)
  have hs3 := hF3.size
  have hC3 : Cd w3 a (fun k => a + 4 ≤ k) (alC 0) := hC3.sub (fun k hk _ => by omega) ⟨by omega, by omega⟩
  have hB3 := hB2.trans (hF3.below (B := a) (by omega) (fun j q => by omega))
  have hs4 : a + 4 ≤ w3.heap.size := by omega
  clear hA2 hC2 hF3 hB2 hBg hs2 hs3
  go_wp2_with fail
  go_loopw [28] (fun iv wr => ∃ i : Nat, i ≤ 3 ∧ iv = .int .i64 (i : Int) ∧ Cd wr a (fun k => a + 4 ≤ k) (alC i) ∧ AgX wr (a + 2) (alA i) ∧ Below a w wr ∧ a + 4 ≤ wr.heap.size) (fun iv _ => 3 - (intOf iv).toNat)
  case atStart => exact ⟨0, by omega, rfl, hC3, hA3, hB3, hs4⟩
  case round =>
    obtain ⟨i, hi, rfl, hC, hA, hB, hsz⟩ := hrel
    clear hC3 hA3 hB3 hs4
    by_cases hlt : i < 3
    · have hil : (i : Int) < 3 := by omega
      have hi0 : (0 : Int) ≤ (i : Int) := by omega
      obtain ⟨K, R, q1, q2, q3, q4⟩ := al_step hlt
      have Q2 := Lib.hid q2
      have Q3 := Lib.hid q3
      have Q4 := Lib.hid q4
      have hS := cstep_ wr a _ (alC i) hC
      rw [q1] at hS
      clear q1 q2 q3 q4
      go_wp2_with fail
      refine hS.mono ?_
      rintro r w4 ⟨v4, rfl, hown4, hb4⟩
      have hC4 := hC.keep hb4
      have hA4 := hA.keep hb4
      have hB4 := hB.trans (hb4.mono (by omega))
      have hs4 := hb4.size
      obtain ⟨A4, cp4, rfl, hc4, hm4, hn4⟩ := own_form hown4
      have hown4 := own_mono hown4 (show a + 4 ≤ wr.heap.size from hsz)
      obtain ⟨wo, hwo⟩ : ∃ wo : World, wo = wr := ⟨_, rfl⟩
      clear hS hC hA hB hb4 hwo
      simp only [List.length_singleton] at hown4 hc4 hn4 ⊢
      go_wp2_with fail
      go_loopw [33] (fun jv w6 => ∃ j : Nat, j ≤ 1 ∧ jv = .int .i64 (j : Int) ∧ Cd w6 a (fun k => a + 4 ≤ k) (alC (i + j)) ∧ AgX w6 (a + 2) (alA (i + j)) ∧ Below a w w6 ∧ a + 4 ≤ w6.heap.size ∧ w6.ownsRow (a + 4) 74 3 (.slice A4 1 cp4) 1 (ods [⟨0, K, 1⟩])) (fun jv _ => 1 - (intOf jv).toNat)
      case atStart => exact ⟨0, by omega, rfl, hC4, hA4, hB4, by omega, hown4⟩
      case round =>
        obtain ⟨w6, rfl⟩ : ∃ w6 : World, w6 = wr := ⟨_, rfl⟩
        obtain ⟨j, hj, rfl, hC6, hA6, hB6, hs6, hown6⟩ := hrel
        clear hC4 hA4 hB4 hs4 hown4
        match j, hj with
        | 0, _ =>
          obtain ⟨b, ox, rfl, x, hx, x0, x1, x2⟩ := ods_get (rd_own hown6) (k := 0) (by omega)
          simp only [List.getElem?_cons_zero, Option.some.injEq] at hx
          subst hx
          simp only [Nat.zero_mul, Nat.add_zero] at x0 x1 x2 hC6 hA6
          rw [show ((0 : Nat) : Int) = 0 from rfl]
          have hba : Below w6.heap.size w6 (w6.alloc (.cells #[.int .i64 0, .int .i64 K, .int .i64 1] 74)) := (Below.refl _ _).alloc (Nat.le_refl _) _
          have hbd : Blk (w6.alloc (.cells #[.int .i64 0, .int .i64 K, .int .i64 1] 74)) w6.heap.size 74 #[.int .i64 0, .int .i64 K, .int .i64 1] := Blk.new w6 _ _ rfl
          have hC7 := hC6.keep hba
          have hA7 := hA6.keep hba
          have hB7 := hB6.trans (hba.mono (by omega))
          have hown7 := own_keep hown6 hba
          have hs7 : (w6.alloc (.cells #[.int .i64 0, .int .i64 K, .int .i64 1] 74)).heap.size = w6.heap.size + 1 := by simp
          have hsg : a + 4 ≤ w6.heap.size := hs6
          clear hC6 hA6 hB6 hown6 hba
          go_wp2_with fail
          obtain ⟨w7, hw7⟩ : ∃ w7, w6.alloc (.cells #[.int .i64 0, .int .i64 K, .int .i64 1] 74) = w7 := ⟨_, rfl⟩
          rw [hw7] at hbd hC7 hA7 hB7 hown7 hs7 ⊢
          obtain ⟨gd, hgd⟩ : ∃ gd, w6.heap.size = gd := ⟨_, rfl⟩
          rw [hgd] at hbd hs7 hsg ⊢
          have d0 := hbd.cell (j := 0) rfl
          have d1 := hbd.cell (j := 1) rfl
          have d2 := hbd.cell (j := 2) rfl
          clear hw7 hgd x0 x1 x2 hs6
          have hO : Calls Try.prog 13 #[.pointer (some ⟨a + 2 + 1, 0, none⟩), .int .i64 K, .int .i64 1] w7.drew (fun r w' => r = .returned (.int .i64 R) ∧ AgX w' (a + 2) (alA (i + 1)) ∧ Fu (fun k => k = a + 2 ∨ k = a + 2 + 1) w7.drew w') := by
            have := order_ w7.drew (a + 2) (alA i) (hA7.drewN 1) K 1 (by unfold I64; omega) (by have := al_len i; omega)
            rwa [Q2.out, Q3.out] at this
          have HC7 := Lib.hid hC7
          have hF7 : Fu (fun _ => False) w7 w7.drew := (Fu.refl _ _).drew
          clear hA7 hC7 hbd
          go_wp2_with fail
          go_region_held3 (fun w' => w'.cell? ⟨gd, 0, none⟩ = some (.int .i64 0) ∧ w'.cell? ⟨gd, 1, none⟩ = some (.int .i64 K) ∧ w'.cell? ⟨gd, 2, none⟩ = some (.int .i64 1))
            (first | go_keep | exact ⟨d0, d1, d2⟩ | exact ⟨fu_cell hF8 (show w7.drew.cell? _ = _ from d0) (by simp only; omega), fu_cell hF8 (show w7.drew.cell? _ = _ from d1) (by simp only; omega), fu_cell hF8 (show w7.drew.cell? _ = _ from d2) (by simp only; omega)⟩ | exact ⟨e0, e1, e2⟩)
            (first
              | (go_at_call 13
                 refine hO.mono ?_
                 rintro r w8 ⟨rfl, hA8, hF8⟩)
              | (go_at_call 26
                 have hC8 := (HC7.out.drewN 1).fu hF8 (fun k hk => by omega) (by omega) (by omega)
                 have hH := hear_ w8 a _ (alC i) hC8 0 R 1
                 rw [Q4.out] at hH
                 refine hH.mono ?_
                 rintro r w9 ⟨rfl, hC9, hF9⟩
                 have e0 := fu_cell hF9 (fu_cell hF8 (show w7.drew.cell? _ = _ from d0) (by simp only; omega)) (by simp only; omega)
                 have e1 := fu_cell hF9 (fu_cell hF8 (show w7.drew.cell? _ = _ from d1) (by simp only; omega)) (by simp only; omega)
                 have e2 := fu_cell hF9 (fu_cell hF8 (show w7.drew.cell? _ = _ from d2) (by simp only; omega)) (by simp only; omega)))
          have hown8 := (own_fu (own_fu hown7 hF7 (fun _ _ q => q)) hF8 (fun k hk q => by have := (hown7.lt k hk).1; omega))
          have hown9 := own_fu hown8 hF9 (fun k hk q => by have := (hown7.lt k hk).1; omega)
          have hA9 := hA8.fu hF9 (by omega) (by omega)
          have hs9 : w7.heap.size ≤ w9.heap.size := Nat.le_trans (show w7.heap.size ≤ w8.heap.size from hF8.size) hF9.size
          have hC9 : Cd w9 a (fun k => a + 4 ≤ k) (alC (i + 1)) := hC9.sub (fun k hk hl => by have : w7.heap.size ≤ w8.heap.size := hF8.size; omega) ⟨by omega, by omega⟩
          have hB9 : Below a w w9 := ((below_drew hB7).trans (hF8.below (B := a) (by show a ≤ w7.heap.size; omega) (fun j q => by omega))).trans (hF9.below (B := a) (by have : w7.heap.size ≤ w8.heap.size := hF8.size; omega) (fun j q => by omega))
          go_wp2
          exact ⟨⟨1, by omega, rfl, hC9, hA9, hB9, by omega, hown9⟩, by simp [intOf]⟩
        | 1, _ =>
          go_wp2
          go_roundw
          case rel => exact ⟨i + 1, by omega, by go_num, hC6, hA6, hB6, hs6⟩
          case measure => simp [intOf]; omega
    · have he : i = 3 := by omega
      subst he
      have hil : ¬ ((3 : Nat) : Int) < 3 := by omega
      have hP := phase_ wr a _ (alC 3) hC
      rw [al_end.2.2.2.1, al_end.2.2.2.2] at hP
      have hSt : ∀ W, Cd W a (fun k => a + 4 ≤ k) (alC 3) → Calls Try.prog 33 #[.pointer (some ⟨a + 1, 0, none⟩), .int .i64 1] W fun e w' => e = .returned (.int .i64 2) ∧ W = w' := fun W hW => by
        have := state_ W a _ (alC 3) hW 1 (by unfold I64; omega)
        rwa [al_end.1] at this
      have hCm : ∀ W, AgX W (a + 2) (alA 3) → Calls Try.prog 17 #[.pointer (some ⟨a + 2 + 1, 0, none⟩), .int .i64 1] W fun r w' => r = .returned (.bool true) ∧ Below W.heap.size W w' := fun W hW => by
        have := committed_ W (a + 2) (alA 3) hW 1 (by unfold I64; omega)
        rwa [al_end.2.1] at this
      have hFr : ∀ W, AgX W (a + 2) (alA 3) → Calls Try.prog 15 #[.pointer (some ⟨a + 2 + 1, 0, none⟩)] W fun r w' => r = .returned (.int .i64 0) ∧ W = w' := fun W hW => by
        have := frozen_ W (a + 2) (alA 3) hW
        rwa [al_end.2.2.1] at this
      go_wp2_with fail
      refine hP.mono ?_
      rintro r w4 ⟨rfl, n4, rfl⟩
      have hC4 := hC.drewN n4
      have hA4 := hA.drewN n4
      have hB4 := below_drewN hB n4
      have hs4 : a + 4 ≤ (wr.drewN n4).heap.size := hsz
      generalize wr.drewN n4 = w4 at *
      clear hP hC hA hB
      go_wp2_with fail
      refine (hSt _ hC4).mono ?_
      rintro r w5 ⟨rfl, rfl⟩
      go_wp2_with fail
      refine (hCm _ hA4).mono ?_
      rintro r w5 ⟨rfl, hb5⟩
      go_wp2_with fail
      refine (hFr _ (hA4.keep hb5)).mono ?_
      rintro r w6 ⟨rfl, rfl⟩
      have hB5 := hB4.trans (hb5.mono (by omega))
      clear hSt hCm hFr hC4 hA4 hB4 hb5
      go_wp2
      go_ret
      exact ⟨rfl, by rw [Ha.out]; exact hB5⟩
end
end Bar
end Go.Proofs.Ytpjbeodnalgkfaa
