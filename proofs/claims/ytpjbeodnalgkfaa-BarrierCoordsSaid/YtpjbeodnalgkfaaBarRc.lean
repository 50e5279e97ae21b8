/- Layer 17: the document's coordinator. -/
import Derived.Test.YtpjbeodnalgkfaaBarRb
set_option linter.all false
namespace Go.Proofs.Ytpjbeodnalgkfaa
open Go.RowKit
namespace Bar
section
variable (w : World)
set_option maxRecDepth 100000 in
set_option maxHeartbeats 8000000 in
theorem rstate_ (b : Nat) (U : Nat → Prop) (c : Co) (h : Rc w b U c) (x : Int) : Calls Try.prog 34 #[.pointer (some ⟨b, 0, none⟩), .int .i64 x] w fun r w' => r = .returned (.int .i64 (stC c x)) ∧ w = w' := by
  obtain ⟨g, A1, n1, c1, A2, n2, c2, h⟩ := h
  obtain ⟨d0, d1, d2, d3, d4⟩ := h.cells
  have hH1 := has_ w A1 n1 c1 c.cm h.cm.is h.cm.cap h.cm.top x
  have hH2 := has_ w A2 n2 c2 c.ab h.ab.is h.ab.cap h.ab.top x
  have HS := Lib.hid (show stC c x = if x ∈ c.cm ∨ (c.ph = 3 ∧ x = c.id) then 2 else if x ∈ c.ab ∨ (c.ph = 4 ∧ x = c.id) then 3 else if 0 < c.ph ∧ x = c.id then 1 else 0 from rfl)
  clear h d0
  by_cases m1 : x ∈ c.cm
  · rw [decide_eq_true m1] at hH1
    have HE := Lib.hid (show stC c x = 2 by rw [HS.out, if_pos (.inl m1)])
    clear m1 HS hH2
    go_enter Try.func34, Try.ntmps34
    go_wp2_with fail
    refine hH1.mono ?_
    rintro r w' ⟨rfl, rfl⟩
    go_wp2
    go_ret
    rw [HE.out]
    exact ⟨rfl, rfl⟩
  · rw [decide_eq_false m1] at hH1
    by_cases mx : x = c.id
    · have tx : (x == c.id) = true := by simpa using mx
      by_cases p3 : c.ph = 3
      · have t3 : (c.ph == 3) = true := by simpa using p3
        have HE := Lib.hid (show stC c x = 2 by rw [HS.out, if_pos (.inr ⟨p3, mx⟩)])
        clear HS m1 mx p3 hH2
        go_enter Try.func34, Try.ntmps34
        go_wp2_with fail
        refine hH1.mono ?_
        rintro r w' ⟨rfl, rfl⟩
        go_wp2
        go_ret
        rw [HE.out]
        exact ⟨rfl, rfl⟩
      · have t3 : (c.ph == 3) = false := by simpa using p3
        by_cases m2 : x ∈ c.ab
        · rw [decide_eq_true m2] at hH2
          have HE := Lib.hid (show stC c x = 3 by rw [HS.out, if_neg (fun q => q.elim m1 (fun q => by omega)), if_pos (.inl m2)])
          clear HS m1 m2 mx p3
          go_enter Try.func34, Try.ntmps34
          go_wp2_with fail
          refine hH1.mono ?_
          rintro r w' ⟨rfl, rfl⟩
          go_wp2_with fail
          refine hH2.mono ?_
          rintro r w' ⟨rfl, rfl⟩
          go_wp2
          go_ret
          rw [HE.out]
          exact ⟨rfl, rfl⟩
        · rw [decide_eq_false m2] at hH2
          by_cases p4 : c.ph = 4
          · have t4 : (c.ph == 4) = true := by simpa using p4
            have HE := Lib.hid (show stC c x = 3 by rw [HS.out, if_neg (fun q => q.elim m1 (fun q => by omega)), if_pos (.inr ⟨p4, mx⟩)])
            clear HS m1 m2 mx p3 p4
            go_enter Try.func34, Try.ntmps34
            go_wp2_with fail
            refine hH1.mono ?_
            rintro r w' ⟨rfl, rfl⟩
            go_wp2_with fail
            refine hH2.mono ?_
            rintro r w' ⟨rfl, rfl⟩
            go_wp2
            go_ret
            rw [HE.out]
            exact ⟨rfl, rfl⟩
          · have t4 : (c.ph == 4) = false := by simpa using p4
            by_cases p0 : 0 < c.ph
            · have HE := Lib.hid (show stC c x = 1 by rw [HS.out, if_neg (fun q => q.elim m1 (fun q => by omega)), if_neg (fun q => q.elim m2 (fun q => p4 q.1)), if_pos ⟨p0, mx⟩])
              clear HS m1 m2 mx p3 p4
              go_enter Try.func34, Try.ntmps34
              go_wp2_with fail
              refine hH1.mono ?_
              rintro r w' ⟨rfl, rfl⟩
              go_wp2_with fail
              refine hH2.mono ?_
              rintro r w' ⟨rfl, rfl⟩
              go_wp2
              go_ret
              rw [HE.out]
              exact ⟨rfl, rfl⟩
            · have HE := Lib.hid (show stC c x = 0 by rw [HS.out, if_neg (fun q => q.elim m1 (fun q => by omega)), if_neg (fun q => q.elim m2 (fun q => p4 q.1)), if_neg (fun q => p0 q.1)])
              clear HS m1 m2 mx p3 p4
              go_enter Try.func34, Try.ntmps34
              go_wp2_with fail
              refine hH1.mono ?_
              rintro r w' ⟨rfl, rfl⟩
              go_wp2_with fail
              refine hH2.mono ?_
              rintro r w' ⟨rfl, rfl⟩
              go_wp2
              go_ret
              rw [HE.out]
              exact ⟨rfl, rfl⟩
    · have tx : (x == c.id) = false := by simpa using mx
      by_cases m2 : x ∈ c.ab
      · rw [decide_eq_true m2] at hH2
        have HE := Lib.hid (show stC c x = 3 by rw [HS.out, if_neg (fun q => q.elim m1 (fun q => mx q.2)), if_pos (.inl m2)])
        clear HS m1 m2 mx
        cases t3 : (c.ph == 3)
        all_goals (
          go_enter Try.func34, Try.ntmps34
          go_wp2_with fail
          refine hH1.mono ?_
          rintro r w' ⟨rfl, rfl⟩
          go_wp2_with fail
          refine hH2.mono ?_
          rintro r w' ⟨rfl, rfl⟩
          go_wp2
          go_ret
          rw [HE.out]
          exact ⟨rfl, rfl⟩
          )
      · rw [decide_eq_false m2] at hH2
        have HE := Lib.hid (show stC c x = 0 by rw [HS.out, if_neg (fun q => q.elim m1 (fun q => mx q.2)), if_neg (fun q => q.elim m2 (fun q => mx q.2)), if_neg (fun q => mx q.2)])
        clear HS m1 m2 mx
        by_cases p0 : 0 < c.ph
        all_goals (
          cases t3 : (c.ph == 3)
          all_goals (
            cases t4 : (c.ph == 4)
            all_goals (
              go_enter Try.func34, Try.ntmps34
              go_wp2_with fail
              refine hH1.mono ?_
              rintro r w' ⟨rfl, rfl⟩
              go_wp2_with fail
              refine hH2.mono ?_
              rintro r w' ⟨rfl, rfl⟩
              go_wp2
              go_ret
              rw [HE.out]
              exact ⟨rfl, rfl⟩
              )))

end
end Bar
end Go.Proofs.Ytpjbeodnalgkfaa
