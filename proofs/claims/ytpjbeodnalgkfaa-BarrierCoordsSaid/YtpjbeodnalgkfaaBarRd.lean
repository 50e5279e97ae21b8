/- Layer 17: the document's coordinator. -/
import Derived.Test.YtpjbeodnalgkfaaBarRc
set_option linter.all false
namespace Go.Proofs.Ytpjbeodnalgkfaa
open Go.RowKit
namespace Bar
section
variable (w : World)
set_option maxRecDepth 100000 in
set_option maxHeartbeats 8000000 in
theorem rbegin_ (b : Nat) (U : Nat → Prop) (c : Co) (h : Rc w b U c) (hF : Few c) (x : Int) : Calls Try.prog 22 #[.pointer (some ⟨b, 0, none⟩), .int .i64 x] w fun r w' => r = .returned (.int .i64 (begE c x)) ∧ RcA w w' b U (begS c x) := by
  have hS := rstate_ w b U c h x
  have HSm := Lib.hid (RcA.same h)
  have hl := h.lt
  have hn16 := hF.2
  obtain ⟨g, A1, n1, c1, A2, n2, c2, h⟩ := h
  obtain ⟨d0, d1, d2, d3, d4⟩ := h.cells
  have f2 := h.blk.free 2
  have hl1 := h.cm.is.len
  have hl2 := h.ab.is.len
  have hfew : n1 + n2 ≤ 1024 := by have := hF.1; omega
  have H := Lib.hid h
  obtain ⟨T, hT⟩ : ∃ T, stC c x = T := ⟨_, rfl⟩
  rw [hT] at hS
  have HB := Lib.hid (show begE c x = if x < 1 then 1 else if 0 < c.ph then 11 else if T ≠ 0 then 10 else if 1024 ≤ n1 + n2 then 6 else 0 by rw [← hT, hl1, hl2]; rfl)
  have HBS := Lib.hid (show begS c x = if begE c x = 0 then turnC { c with id := x } 1 else c from rfl)
  clear h hT hl1 hl2 hF d0
  by_cases h1 : x < 1
  · have HE := Lib.hid (show begE c x = 1 by rw [HB.out, if_pos h1])
    have HS2 := Lib.hid (show begS c x = c by rw [HBS.out, HE.out]; rfl)
    go_enter Try.func22, Try.ntmps22
    go_wp2
    go_ret
    rw [HE.out, HS2.out]
    exact ⟨rfl, HSm.out⟩
  · by_cases h2 : 0 < c.ph
    · have HE := Lib.hid (show begE c x = 11 by rw [HB.out, if_neg h1, if_pos h2])
      have HS2 := Lib.hid (show begS c x = c by rw [HBS.out, HE.out]; rfl)
      go_enter Try.func22, Try.ntmps22
      go_wp2
      go_ret
      rw [HE.out, HS2.out]
      exact ⟨rfl, HSm.out⟩
    · by_cases h3 : T = 0
      · have t3 : (T != 0) = false := by simpa using h3
        have hsum : IntKind.i64.wrap ((n1 : Int) + (n2 : Int)) = (n1 : Int) + (n2 : Int) := by rw [IntKind.wrap_i64]; omega
        by_cases h4 : 1024 ≤ n1 + n2
        · have t4 : (1024 : Int) ≤ (n1 : Int) + (n2 : Int) := by omega
          have HE := Lib.hid (show begE c x = 6 by rw [HB.out, if_neg h1, if_neg h2, if_neg (by simpa using h3), if_pos h4])
          have HS2 := Lib.hid (show begS c x = c by rw [HBS.out, HE.out]; rfl)
          clear h3
          go_enter Try.func22, Try.ntmps22
          go_wp2_with fail
          refine hS.mono ?_
          rintro r w' ⟨rfl, rfl⟩
          go_wp2_with fail
          go_quiet (fail)
          go_wp2
          go_ret
          rw [HE.out, HS2.out]
          refine ⟨rfl, ?_⟩
          have hb := HSm.out
          exact ⟨hb.1.keep (by first | exact below_drew (Below.refl _ _) | exact below_drewN (Below.refl _ _) _), by first | exact hb.2.drew | exact hb.2.drewN _⟩
        · have t4 : ¬ (1024 : Int) ≤ (n1 : Int) + (n2 : Int) := by omega
          have HE := Lib.hid (show begE c x = 0 by rw [HB.out, if_neg h1, if_neg h2, if_neg (by simpa using h3), if_neg h4])
          have HS2 := Lib.hid (show begS c x = turnC { c with id := x } 1 by rw [HBS.out, if_pos HE.out])
          have hX2 : ∀ W, Fu (fun _ => False) w W → RcX (W.setCell ⟨b, 2, none⟩ (.int .i64 x)) b U { c with id := x } g A1 n1 c1 A2 n2 c2 := fun W hW => by
            have hY := H.out.fu hW (fun _ _ q => q) (fun q => q)
            have hf : Fu (fun k => k = b) W (W.setCell ⟨b, 2, none⟩ (.int .i64 x)) := fu_set (S := fun k => k = b) (Fu.refl _ _) _ _ _ rfl
            have hs : ∀ k, U k → ¬ k = b := fun k hk e => hY.out (e ▸ hk)
            refine ⟨?_, blk_fu hY.ans hf (hs g hY.gU), hY.cm.fu hf hs, hY.ab.fu hf hs, hY.nil1, hY.nil2, hY.gU, hY.ap1, hY.ap2, hY.out⟩
            have := hY.blk.setCell 2 (.int .i64 x)
            simpa using this
          have HX2 := Lib.hid hX2
          clear h3 hX2
          go_enter Try.func22, Try.ntmps22
          go_wp2_with fail
          refine hS.mono ?_
          rintro r w' ⟨rfl, rfl⟩
          go_wp2_with fail
          go_quiet (fail)
          have hW : Fu (fun _ => False) w (w.drewN nq) := (Fu.refl _ _).drewN _
          have e2 : (w.drewN nq).cell? ⟨b, 2, none⟩ = some (.int .i64 c.id) := d2
          have g2 : (w.drewN nq).frozen? ⟨b, 2, none⟩ = false := f2
          go_wp2_with fail
          refine (rturn_ _ b U { c with id := x } ⟨g, A1, n1, c1, A2, n2, c2, HX2.out _ hW⟩ hn16 1).mono ?_
          rintro r w3 ⟨rfl, hT⟩
          go_wp2
          go_ret
          rw [HE.out, HS2.out]
          refine ⟨rfl, hT.1.sub (fun k hk _ => hk.imp id (fun q => by simpa [World.setCell] using q)) (fun q => q.elim H.out.out (by omega)), (fu_set (S := fun k => k = b ∨ U k) (hW.mono (fun _ q => q.elim)) _ _ _ (.inl rfl)).then hT.2 (fun j q => .inl q)⟩
      · have t3 : (T != 0) = true := by simpa using h3
        have HE := Lib.hid (show begE c x = 10 by rw [HB.out, if_neg h1, if_neg h2, if_pos h3])
        have HS2 := Lib.hid (show begS c x = c by rw [HBS.out, HE.out]; rfl)
        clear h3
        go_enter Try.func22, Try.ntmps22
        go_wp2_with fail
        refine hS.mono ?_
        rintro r w' ⟨rfl, rfl⟩
        go_wp2
        go_ret
        rw [HE.out, HS2.out]
        exact ⟨rfl, HSm.out⟩
set_option maxRecDepth 100000 in
set_option maxHeartbeats 8000000 in
theorem rabort_ (b : Nat) (U : Nat → Prop) (c : Co) (h : Rc w b U c) (hn : c.ans.length ≤ 16) : Calls Try.prog 29 #[.pointer (some ⟨b, 0, none⟩)] w fun r w' => r = .returned (.int .i64 (abE c)) ∧ RcA w w' b U (abS c) := by
  have HSm := Lib.hid (RcA.same h)
  have hT := rturn_ w b U c h hn 4
  obtain ⟨g, A1, n1, c1, A2, n2, c2, h⟩ := h
  have d1 := h.cells.2.1
  clear h
  by_cases h1 : c.ph = 1 ∨ c.ph = 2
  · have HE := Lib.hid (abE_not.2 h1)
    have HS2 := Lib.hid (show abS c = turnC c 4 by unfold abS; rw [if_pos HE.out])
    rcases h1 with h1 | h1
    · have t1 : (c.ph != 1) = false := by simpa using h1
      clear h1
      go_enter Try.func29, Try.ntmps29
      go_wp2_with fail
      refine hT.mono ?_
      rintro r w3 ⟨rfl, hT⟩
      go_wp2
      go_ret
      rw [HE.out, HS2.out]
      exact ⟨rfl, hT⟩
    · have t1 : (c.ph != 1) = true := by simp; omega
      have t2 : (c.ph != 2) = false := by simpa using h1
      clear h1
      go_enter Try.func29, Try.ntmps29
      go_wp2_with fail
      refine hT.mono ?_
      rintro r w3 ⟨rfl, hT⟩
      go_wp2
      go_ret
      rw [HE.out, HS2.out]
      exact ⟨rfl, hT⟩
  · have HE := Lib.hid (show abE c = 11 by unfold abE; rw [if_neg h1])
    have HS2 := Lib.hid (show abS c = c by unfold abS; rw [HE.out]; rfl)
    have t1 : (c.ph != 1) = true := by simp; omega
    have t2 : (c.ph != 2) = true := by simp; omega
    clear h1
    go_enter Try.func29, Try.ntmps29
    go_wp2
    go_ret
    rw [HE.out, HS2.out]
    exact ⟨rfl, HSm.out⟩
set_option maxRecDepth 100000 in
set_option maxHeartbeats 8000000 in
theorem rcrash_ (b : Nat) (U : Nat → Prop) (c : Co) (h : Rc w b U c) (hn : c.ans.length ≤ 16) : Calls Try.prog 31 #[.pointer (some ⟨b, 0, none⟩)] w fun r w' => r = .returned (.tuple #[]) ∧ RcA w w' b U (crS c) := by
  have hl := h.lt
  have hT := rturn_ w b U c h hn 4
  have hT0 := rturn_ w b U c h hn c.ph
  obtain ⟨g, A1, n1, c1, A2, n2, c2, h⟩ := h
  have d1 := h.cells.2.1
  have ho := h.out
  clear h
  by_cases h1 : c.ph = 1 ∨ c.ph = 2
  · have HS2 := Lib.hid (show crS c = turnC (turnC c 4) 4 by unfold crS; rw [if_pos (abE_not.2 h1)]; simp [turnC])
    have t : (c.ph == 1) = true ∨ ((c.ph == 1) = false ∧ (c.ph == 2) = true) := by
      rcases h1 with h1 | h1
      · left; simpa using h1
      · right; exact ⟨by simp; omega, by simpa using h1⟩
    clear h1
    rcases t with t1 | ⟨t1, t2⟩
    all_goals (
      go_enter Try.func31, Try.ntmps31
      go_wp2_with fail
      refine hT.mono ?_
      rintro r w3 ⟨rfl, hA⟩
      have hA' := hA.1
      obtain ⟨g', B1, m1, e1, B2, m2, e2, hY⟩ := hA'
      have q1 : w3.cell? ⟨b, 1, none⟩ = some (.int .i64 4) := hY.cells.2.1
      have hT2 := rturn_ w3 b _ (turnC c 4) ⟨g', B1, m1, e1, B2, m2, e2, hY⟩ (by simp [turnC]; omega) 4
      clear hT hT0 hY
      go_wp2_with fail
      refine hT2.mono ?_
      rintro r w4 ⟨rfl, hB⟩
      go_wp2
      go_end0
      rw [HS2.out]
      exact ⟨rfl, hA.then hB ho hl⟩)
  · have HS2 := Lib.hid (show crS c = turnC c c.ph by unfold crS; rw [if_neg (by rw [abE_not]; exact h1)])
    have t1 : (c.ph == 1) = false := by simp; omega
    have t2 : (c.ph == 2) = false := by simp; omega
    clear h1
    go_enter Try.func31, Try.ntmps31
    go_wp2_with fail
    refine hT0.mono ?_
    rintro r w3 ⟨rfl, hA⟩
    go_wp2
    go_end0
    rw [HS2.out]
    exact ⟨rfl, hA⟩
end
end Bar
end Go.Proofs.Ytpjbeodnalgkfaa
