/- Layer 17: Begin, Hear, Abort, Crash of a coordinator. -/
import Derived.Test.YtpjbeodnalgkfaaBarF
set_option linter.all false
namespace Go.Proofs.Ytpjbeodnalgkfaa
open Go.RowKit
namespace Bar
def CdA (w w' : World) (g : Nat) (U : Nat → Prop) (c : Co) : Prop := Cd w' g (fun k => U k ∨ w.heap.size ≤ k) c ∧ Fu (fun k => k = g ∨ k = g + 1) w w'
theorem CdTo.a {w w' : World} {g : Nat} {U : Nat → Prop} {c : Co} (h : CdTo w w' g U c) (h1 : CoOk c) (h2 : Few c) : CdA w w' g U c := ⟨⟨h.1, h1, h2⟩, h.2⟩
theorem CdA.same {w : World} {g : Nat} {U : Nat → Prop} {c : Co} (h : Cd w g U c) : CdA w w g U c := by
  obtain ⟨⟨A, n, cp, h⟩, h1, h2⟩ := h
  exact (CdTo.same h).a h1 h2
section
variable (w : World)
set_option maxRecDepth 100000 in
set_option maxHeartbeats 4000000 in
theorem begin_ (g : Nat) (U : Nat → Prop) (c : Co) (h : Cd w g U c) (x : Int) (hx : I64 x) : Calls Try.prog 21 #[.pointer (some ⟨g + 1, 0, none⟩), .int .i64 x] w fun e w' => e = .returned (.int .i64 (begE c x)) ∧ CdA w w' g U (begS c x) := by
  have HO := Lib.hid (ok_beg h.ok x)
  have HF := Lib.hid (few_beg h.few x)
  have HS := Lib.hid (CdA.same h)
  have hf16 := h.few.2
  obtain ⟨⟨A, n, cp, h⟩, hok, hfew⟩ := h
  obtain ⟨c0, c1, c2, c3, c4, c5⟩ := h.cells
  have hk := h.mp.look hx
  have hl := h.mp.len 3
  have hph := hok.ph
  have f3 := h.blk.free 3
  have H := Lib.hid h
  have hgl := h.blk.lt
  clear h hok
  by_cases h1 : x < 1
  · have HE := Lib.hid (show begE c x = 1 by unfold begE; rw [if_pos h1])
    have HS2 := Lib.hid (show begS c x = c by unfold begS; rw [HE.out]; rfl)
    go_enter Try.func21, Try.ntmps21
    go_wp2_with fail
    refine (cgiven_ w (g + 1) c0).mono ?_
    rintro r w' ⟨rfl, rfl⟩
    go_wp2
    go_ret
    rw [HE.out, HS2.out]
    exact ⟨rfl, HS.out⟩
  · by_cases h0 : c.ph = 0
    · have t0 : (c.ph != 0) = false := by simpa using h0
      have HK := Lib.hid (stC_idle h0 x)
      obtain ⟨K, hK⟩ : ∃ K, (endF c x).getD 0 = K := ⟨_, rfl⟩
      rw [hK] at hk HK
      obtain ⟨q, hq⟩ : ∃ q, c.cm.length + c.ab.length = q := ⟨_, rfl⟩
      have Hq := Lib.hid hq
      rw [hq] at hl
      by_cases h2 : K = 0
      · have t1 : (K != 0) = false := by simpa using h2
        by_cases h3 : 1024 ≤ q
        · have h3i : (1024 : Int) ≤ (q : Int) := by omega
          have HE := Lib.hid (show begE c x = 6 by unfold begE; rw [if_neg h1, if_neg (by omega), if_neg (by rw [HK.out]; simpa using h2), if_pos (by omega)])
          have HS2 := Lib.hid (show begS c x = c by unfold begS; rw [HE.out]; rfl)
          clear hK hq h0 h2
          go_enter Try.func21, Try.ntmps21
          go_wp2_with fail
          refine (cgiven_ w (g + 1) c0).mono ?_
          rintro r w' ⟨rfl, rfl⟩
          go_wp2
          go_ret
          rw [HE.out, HS2.out]
          exact ⟨rfl, HS.out⟩
        · have h3i : ¬ (1024 : Int) ≤ (q : Int) := by omega
          have HE := Lib.hid (show begE c x = 0 by unfold begE; rw [if_neg h1, if_neg (by omega), if_neg (by rw [HK.out]; simpa using h2), if_neg (by omega)])
          have HS2 := Lib.hid (show begS c x = turnC { c with id := x } 1 by unfold begS; rw [if_pos HE.out])
          have hk2 : Blk (w.setCell ⟨g + 1, 3, none⟩ (.int .i64 x)) (g + 1) 80 (coa g c.ans.length c.ph x (.slice A n cp)) := by
            have := H.out.blk.setCell 3 (.int .i64 x)
            simpa using this
          have hF2 : Fu (fun k => k = g ∨ k = g + 1) w (w.setCell ⟨g + 1, 3, none⟩ (.int .i64 x)) := fu_set (Fu.refl _ _) _ _ _ (.inr rfl)
          have hM2 : Mp (w.setCell ⟨g + 1, 3, none⟩ (.int .i64 x)) g (c.cm.length + c.ab.length) (endF c) := H.out.mp.fu (S := fun k => k = g + 1) (fu_set (S := fun k => k = g + 1) (Fu.refl _ _) _ _ _ rfl) (by omega)
          have HEn := Lib.hid (enter_ _ g c.ans.length c.ph x (.slice A n cp) hk2 hf16 1)
          have HF2 := Lib.hid hF2
          have HM2 := Lib.hid hM2
          clear hK hq h0 h2 hk2 hF2 hM2
          go_enter Try.func21, Try.ntmps21
          go_wp2_with fail
          refine (cgiven_ w (g + 1) c0).mono ?_
          rintro r w' ⟨rfl, rfl⟩
          go_wp2_with fail
          refine HEn.out.mono ?_
          rintro r w3 ⟨rfl, v3, hb3, ho3, hF3⟩
          go_wp2
          go_ret
          have hT := (CdTo.entered H.out HF2.out HM2.out x hx (p := 1) (by decide) rfl hb3 ho3 hF3).a (by have := HO.out; rwa [HS2.out] at this) (by have := HF.out; rwa [HS2.out] at this)
          rw [HE.out, HS2.out]
          exact ⟨rfl, hT⟩
      · have t1 : (K != 0) = true := by simpa using h2
        have HE := Lib.hid (show begE c x = 10 by unfold begE; rw [if_neg h1, if_neg (by omega), if_pos (by rw [HK.out]; exact h2)])
        have HS2 := Lib.hid (show begS c x = c by unfold begS; rw [HE.out]; rfl)
        clear hK hq h0 h2
        go_enter Try.func21, Try.ntmps21
        go_wp2_with fail
        refine (cgiven_ w (g + 1) c0).mono ?_
        rintro r w' ⟨rfl, rfl⟩
        go_wp2
        go_ret
        rw [HE.out, HS2.out]
        exact ⟨rfl, HS.out⟩
    · have t0 : (c.ph != 0) = true := by simpa using h0
      have HE := Lib.hid (show begE c x = 11 by unfold begE; rw [if_neg h1, if_pos (by omega)])
      have HS2 := Lib.hid (show begS c x = c by unfold begS; rw [HE.out]; rfl)
      clear h0
      go_enter Try.func21, Try.ntmps21
      go_wp2_with fail
      refine (cgiven_ w (g + 1) c0).mono ?_
      rintro r w' ⟨rfl, rfl⟩
      go_wp2
      go_ret
      rw [HE.out, HS2.out]
      exact ⟨rfl, HS.out⟩
set_option maxRecDepth 100000 in
set_option maxHeartbeats 4000000 in
theorem hear_ (g : Nat) (U : Nat → Prop) (c : Co) (h : Cd w g U c) (a k x : Int) : Calls Try.prog 26 #[.pointer (some ⟨g + 1, 0, none⟩), .int .i64 a, .int .i64 k, .int .i64 x] w fun e w' => e = .returned (.int .i64 (hearE c a k x)) ∧ CdA w w' g U (hearS c a k x) := by
  have HO := Lib.hid (goes_hear h.ok a k x).1
  have HF := Lib.hid (few_hear h.few a k x)
  have HS := Lib.hid (CdA.same h)
  have hf16 := h.few.2
  obtain ⟨⟨A, n, cp, h⟩, hok, hfew⟩ := h
  obtain ⟨c0, c1, c2, c3, c4, c5⟩ := h.cells
  have hph := hok.ph
  have H := Lib.hid h
  have HOK := Lib.hid hok
  have HFW := Lib.hid hfew
  have hgl := h.blk.lt
  have hD := decided_ w (g + 1) c.ph c2
  have hW := awaited_ w (g + 1) c.ph c2
  obtain ⟨m, hm⟩ : ∃ m, c.ans.length = m := ⟨_, rfl⟩
  have Hm := Lib.hid hm
  rw [hm] at c1
  clear h hok hfew
  by_cases h1 : a < 0
  · have HE := Lib.hid (show hearE c a k x = 1 by unfold hearE; rw [if_pos (by omega)])
    have HS2 := Lib.hid (show hearS c a k x = c by unfold hearS; rw [HE.out]; rfl)
    clear hD hW hm
    go_enter Try.func26, Try.ntmps26
    go_wp2_with fail
    refine (cgiven_ w (g + 1) c0).mono ?_
    rintro r w' ⟨rfl, rfl⟩
    go_wp2
    go_ret
    rw [HE.out, HS2.out]
    exact ⟨rfl, HS.out⟩
  · by_cases h2 : (m : Int) ≤ a
    · have HE := Lib.hid (show hearE c a k x = 1 by unfold hearE; rw [if_pos (by omega)])
      have HS2 := Lib.hid (show hearS c a k x = c by unfold hearS; rw [HE.out]; rfl)
      clear hD hW hm
      go_enter Try.func26, Try.ntmps26
      go_wp2_with fail
      refine (cgiven_ w (g + 1) c0).mono ?_
      rintro r w' ⟨rfl, rfl⟩
      go_wp2
      go_ret
      rw [HE.out, HS2.out]
      exact ⟨rfl, HS.out⟩
    · by_cases h3 : k < 11
      · have HE := Lib.hid (show hearE c a k x = 1 by unfold hearE; rw [if_pos (by omega)])
        have HS2 := Lib.hid (show hearS c a k x = c by unfold hearS; rw [HE.out]; rfl)
        clear hD hW hm
        go_enter Try.func26, Try.ntmps26
        go_wp2_with fail
        refine (cgiven_ w (g + 1) c0).mono ?_
        rintro r w' ⟨rfl, rfl⟩
        go_wp2
        go_ret
        rw [HE.out, HS2.out]
        exact ⟨rfl, HS.out⟩
      · by_cases h4 : 14 < k
        · have HE := Lib.hid (show hearE c a k x = 1 by unfold hearE; rw [if_pos (by omega)])
          have HS2 := Lib.hid (show hearS c a k x = c by unfold hearS; rw [HE.out]; rfl)
          clear hD hW hm
          go_enter Try.func26, Try.ntmps26
          go_wp2_with fail
          refine (cgiven_ w (g + 1) c0).mono ?_
          rintro r w' ⟨rfl, rfl⟩
          go_wp2
          go_ret
          rw [HE.out, HS2.out]
          exact ⟨rfl, HS.out⟩
        · by_cases h5 : c.ph = 0
          · have HE := Lib.hid (show hearE c a k x = 11 by unfold hearE; rw [if_neg (by omega), if_pos (.inl h5)])
            have t5 : (c.ph == 0) = true := by simpa using h5
            have HS2 := Lib.hid (show hearS c a k x = c by unfold hearS; rw [HE.out]; rfl)
            clear hD hW hm h5
            go_enter Try.func26, Try.ntmps26
            go_wp2_with fail
            refine (cgiven_ w (g + 1) c0).mono ?_
            rintro r w' ⟨rfl, rfl⟩
            go_wp2
            go_ret
            rw [HE.out, HS2.out]
            exact ⟨rfl, HS.out⟩
          · have t5 : (c.ph == 0) = false := by simpa using h5
            by_cases h6 : x = c.id
            · have t6 : (x != c.id) = false := by simpa using h6
              have HE := Lib.hid (show hearE c a k x = 0 by unfold hearE; rw [if_neg (by omega), if_neg (by omega)])
              by_cases h7 : c.ph < 3 ∧ k = 14
              · have HS2 := Lib.hid (show hearS c a k x = turnC { c with id := c.id } 4 by unfold hearS; rw [if_neg (by rw [HE.out]; simp), if_pos h7])
                obtain ⟨h7, rfl⟩ := h7
                rw [decide_eq_false (by omega)] at hD
                have HEn := Lib.hid (enter_ w g c.ans.length c.ph c.id (.slice A n cp) H.out.blk hf16 4)
                clear hW hm h5 h6
                go_enter Try.func26, Try.ntmps26
                go_wp2_with fail
                refine (cgiven_ w (g + 1) c0).mono ?_
                rintro r w' ⟨rfl, rfl⟩
                go_wp2_with fail
                refine hD.mono ?_
                rintro r w' ⟨rfl, rfl⟩
                go_wp2_with fail
                refine HEn.out.mono ?_
                rintro r w3 ⟨rfl, v3, hb3, ho3, hF3⟩
                go_wp2
                go_ret
                have hT := (CdTo.entered H.out (Fu.refl _ _) H.out.mp c.id H.out.idr (p := 4) (by decide) rfl hb3 ho3 hF3).a (by have := HO.out; rwa [HS2.out] at this) (by have := HF.out; rwa [HS2.out] at this)
                rw [HE.out, HS2.out]
                exact ⟨rfl, hT⟩
              · have hwt : (if c.ph = 1 then 11 else if c.ph = 2 then 12 else 13) = wantC c := by
                  unfold wantC
                  by_cases q1 : c.ph = 1
                  · rw [if_pos q1, if_neg (by omega), q1]; rfl
                  · by_cases q2 : c.ph = 2
                    · rw [if_neg q1, if_pos q2, if_neg (by omega), q2]; rfl
                    · rw [if_neg q1, if_neg q2, if_pos (by omega)]
                rw [hwt] at hW
                have HB := Lib.hid (show hearS c a k x = if k ≠ wantC c then c else if (setC c a).ans.all (fun b => b) then goOn (setC c a) else setC c a by unfold hearS; rw [if_neg (by rw [HE.out]; simp), if_neg h7])
                obtain ⟨wt, hwt2⟩ : ∃ wt, wantC c = wt := ⟨_, rfl⟩
                rw [hwt2] at hW HB
                obtain ⟨i, hi⟩ : ∃ i : Nat, a = (i : Int) := ⟨a.toNat, by omega⟩
                subst hi
                have HN := Lib.hid (answered_ w g U c A n cp H.out HOK.out HFW.out (by omega) i (by omega))
                by_cases h8 : k = wt
                · have HS2 := Lib.hid (show hearS c (i : Int) k x = _ from by rw [HB.out, if_neg (fun q => q h8)])
                  have t8 : (k == wt) = true := by simpa using h8
                  by_cases h9 : k = 14
                  · have hd4 : c.ph = 3 ∨ c.ph = 4 := by omega
                    exfalso
                    rw [← hwt2] at h8
                    unfold wantC at h8
                    split at h8 <;> omega
                  · have t9 : (k == 14) = false := by simpa using h9
                    clear hwt hwt2 hm h5 h6 h7 h8 h9 hD
                    go_enter Try.func26, Try.ntmps26
                    go_wp2_with fail
                    refine (cgiven_ w (g + 1) c0).mono ?_
                    rintro r w' ⟨rfl, rfl⟩
                    go_wp2_with fail
                    refine hW.mono ?_
                    rintro r w' ⟨rfl, rfl⟩
                    go_wp2_with fail
                    refine HN.out.mono ?_
                    rintro r w3 ⟨rfl, hT⟩
                    go_wp2
                    go_ret
                    rw [← HS2.out] at hT
                    rw [HE.out]
                    exact ⟨rfl, hT.a HO.out HF.out⟩
                · have HS2 := Lib.hid (show hearS c (i : Int) k x = c by rw [HB.out, if_pos h8])
                  have t8 : (k == wt) = false := by simpa using h8
                  clear HN
                  by_cases h9 : k = 14
                  · subst h9
                    rw [decide_eq_true (show c.ph = 3 ∨ c.ph = 4 by omega)] at hD
                    clear hwt hwt2 hm h5 h6 h7 h8
                    go_enter Try.func26, Try.ntmps26
                    go_wp2_with fail
                    refine (cgiven_ w (g + 1) c0).mono ?_
                    rintro r w' ⟨rfl, rfl⟩
                    go_wp2_with fail
                    refine hD.mono ?_
                    rintro r w' ⟨rfl, rfl⟩
                    go_wp2_with fail
                    refine hW.mono ?_
                    rintro r w' ⟨rfl, rfl⟩
                    go_wp2
                    go_ret
                    rw [HE.out, HS2.out]
                    exact ⟨rfl, HS.out⟩
                  · have t9 : (k == 14) = false := by simpa using h9
                    clear hwt hwt2 hm h5 h6 h7 h8 h9 hD
                    go_enter Try.func26, Try.ntmps26
                    go_wp2_with fail
                    refine (cgiven_ w (g + 1) c0).mono ?_
                    rintro r w' ⟨rfl, rfl⟩
                    go_wp2_with fail
                    refine hW.mono ?_
                    rintro r w' ⟨rfl, rfl⟩
                    go_wp2
                    go_ret
                    rw [HE.out, HS2.out]
                    exact ⟨rfl, HS.out⟩
            · have t6 : (x != c.id) = true := by simpa using h6
              have HE := Lib.hid (show hearE c a k x = 11 by unfold hearE; rw [if_neg (by omega), if_pos (.inr h6)])
              have HS2 := Lib.hid (show hearS c a k x = c by unfold hearS; rw [HE.out]; rfl)
              clear hD hW hm h5 h6
              go_enter Try.func26, Try.ntmps26
              go_wp2_with fail
              refine (cgiven_ w (g + 1) c0).mono ?_
              rintro r w' ⟨rfl, rfl⟩
              go_wp2
              go_ret
              rw [HE.out, HS2.out]
              exact ⟨rfl, HS.out⟩
set_option maxRecDepth 100000 in
set_option maxHeartbeats 4000000 in
theorem cabort_ (g : Nat) (U : Nat → Prop) (c : Co) (h : Cd w g U c) : Calls Try.prog 28 #[.pointer (some ⟨g + 1, 0, none⟩)] w fun e w' => e = .returned (.int .i64 (abE c)) ∧ CdA w w' g U (abS c) := by
  have HO := Lib.hid (ok_ab h.ok)
  have HF := Lib.hid (few_ab h.few)
  have HS := Lib.hid (CdA.same h)
  have hf16 := h.few.2
  obtain ⟨⟨A, n, cp, h⟩, hok, hfew⟩ := h
  obtain ⟨c0, c1, c2, c3, c4, c5⟩ := h.cells
  have hph := hok.ph
  have H := Lib.hid h
  have hD := decided_ w (g + 1) c.ph c2
  clear h hok hfew
  by_cases h0 : c.ph = 0
  · have t0 : (c.ph == 0) = true := by simpa using h0
    have HE := Lib.hid (show abE c = 11 by unfold abE; rw [if_neg (by omega)])
    have HS2 := Lib.hid (show abS c = c by unfold abS; rw [HE.out]; rfl)
    clear h0 hD
    go_enter Try.func28, Try.ntmps28
    go_wp2_with fail
    refine (cgiven_ w (g + 1) c0).mono ?_
    rintro r w' ⟨rfl, rfl⟩
    go_wp2
    go_ret
    rw [HE.out, HS2.out]
    exact ⟨rfl, HS.out⟩
  · have t0 : (c.ph == 0) = false := by simpa using h0
    by_cases h3 : c.ph = 3 ∨ c.ph = 4
    · rw [decide_eq_true h3] at hD
      have HE := Lib.hid (show abE c = 11 by unfold abE; rw [if_neg (by omega)])
      have HS2 := Lib.hid (show abS c = c by unfold abS; rw [HE.out]; rfl)
      clear h0 h3
      go_enter Try.func28, Try.ntmps28
      go_wp2_with fail
      refine (cgiven_ w (g + 1) c0).mono ?_
      rintro r w' ⟨rfl, rfl⟩
      go_wp2_with fail
      refine hD.mono ?_
      rintro r w' ⟨rfl, rfl⟩
      go_wp2
      go_ret
      rw [HE.out, HS2.out]
      exact ⟨rfl, HS.out⟩
    · rw [decide_eq_false h3] at hD
      have HE := Lib.hid (show abE c = 0 by rw [abE_not]; omega)
      have HS2 := Lib.hid (show abS c = turnC { c with id := c.id } 4 by unfold abS; rw [if_pos HE.out])
      have HEn := Lib.hid (enter_ w g c.ans.length c.ph c.id (.slice A n cp) H.out.blk hf16 4)
      clear h0 h3
      go_enter Try.func28, Try.ntmps28
      go_wp2_with fail
      refine (cgiven_ w (g + 1) c0).mono ?_
      rintro r w' ⟨rfl, rfl⟩
      go_wp2_with fail
      refine hD.mono ?_
      rintro r w' ⟨rfl, rfl⟩
      go_wp2_with fail
      refine HEn.out.mono ?_
      rintro r w3 ⟨rfl, v3, hb3, ho3, hF3⟩
      go_wp2
      go_ret
      have hT := (CdTo.entered H.out (Fu.refl _ _) H.out.mp c.id H.out.idr (p := 4) (by decide) rfl hb3 ho3 hF3).a (by have := HO.out; rwa [HS2.out] at this) (by have := HF.out; rwa [HS2.out] at this)
      rw [HE.out, HS2.out]
      exact ⟨rfl, hT⟩
set_option maxRecDepth 100000 in
set_option maxHeartbeats 4000000 in
theorem ccrash_ (g : Nat) (U : Nat → Prop) (c : Co) (h : Cd w g U c) : Calls Try.prog 30 #[.pointer (some ⟨g + 1, 0, none⟩)] w fun e w' => e = .returned (.tuple #[]) ∧ CdA w w' g U (crS c) := by
  have HO := Lib.hid (ok_cr h.ok)
  have HF := Lib.hid (few_cr h.few)
  have HS := Lib.hid (CdA.same h)
  have hf16 := h.few.2
  obtain ⟨⟨A, n, cp, h⟩, hok, hfew⟩ := h
  obtain ⟨c0, c1, c2, c3, c4, c5⟩ := h.cells
  have hph := hok.ph
  have H := Lib.hid h
  have hD := decided_ w (g + 1) c.ph c2
  clear h hok hfew
  by_cases h0 : c.ph = 0
  · have t0 : (c.ph == 0) = true := by simpa using h0
    have HS2 := Lib.hid (show crS c = turnC c 0 by unfold crS; rw [if_neg (by rw [abE_not]; omega), h0])
    have HC : CdX w g U (turnC c 0) A n cp := by
      have h := H.out
      refine ⟨?_, h.mp, ?_, h.out, h.idr⟩
      · have := h.blk
        rw [h0] at this
        simpa [turnC] using this
      · have := h.opn
        rw [openI_zero h0] at this
        rw [openI_zero (c := turnC c 0) rfl]
        exact this
    have HC := Lib.hid HC
    clear h0 hD
    go_enter Try.func30, Try.ntmps30
    go_wp2_with fail
    refine (cgiven_ w (g + 1) c0).mono ?_
    rintro r w' ⟨rfl, rfl⟩
    go_wp2
    refine bodyPost_ret (results_none rfl _ _ _) rfl ?_
    have hT := (CdTo.same HC.out).a (by have := HO.out; rwa [HS2.out] at this) (by have := HF.out; rwa [HS2.out] at this)
    rw [HS2.out]
    exact ⟨rfl, hT⟩
  · have t0 : (c.ph == 0) = false := by simpa using h0
    by_cases h3 : c.ph = 3 ∨ c.ph = 4
    · rw [decide_eq_true h3] at hD
      have HS2 := Lib.hid (show crS c = turnC { c with id := c.id } c.ph by unfold crS; rw [if_neg (by rw [abE_not]; omega)])
      have HEn := Lib.hid (enter_ w g c.ans.length c.ph c.id (.slice A n cp) H.out.blk hf16 c.ph)
      have hpp : 0 < c.ph := by omega
      clear h0 h3
      go_enter Try.func30, Try.ntmps30
      go_wp2_with fail
      refine (cgiven_ w (g + 1) c0).mono ?_
      rintro r w' ⟨rfl, rfl⟩
      go_wp2_with fail
      refine hD.mono ?_
      rintro r w' ⟨rfl, rfl⟩
      go_wp2_with fail
      refine HEn.out.mono ?_
      rintro r w3 ⟨rfl, v3, hb3, ho3, hF3⟩
      go_wp2
      go_end0
      have hT := (CdTo.entered H.out (Fu.refl _ _) H.out.mp c.id H.out.idr (p := c.ph) hpp rfl hb3 ho3 hF3).a (by have := HO.out; rwa [HS2.out] at this) (by have := HF.out; rwa [HS2.out] at this)
      rw [HS2.out]
      exact ⟨rfl, hT⟩
    · rw [decide_eq_false h3] at hD
      have HE := Lib.hid (show abE c = 0 by rw [abE_not]; omega)
      have HS2 := Lib.hid (show crS c = turnC { c with id := c.id } 4 by unfold crS; rw [if_pos HE.out])
      have HEn := Lib.hid (enter_ w g c.ans.length c.ph c.id (.slice A n cp) H.out.blk hf16 4)
      clear h0 h3
      go_enter Try.func30, Try.ntmps30
      go_wp2_with fail
      refine (cgiven_ w (g + 1) c0).mono ?_
      rintro r w' ⟨rfl, rfl⟩
      go_wp2_with fail
      refine hD.mono ?_
      rintro r w' ⟨rfl, rfl⟩
      go_wp2_with fail
      refine HEn.out.mono ?_
      rintro r w3 ⟨rfl, v3, hb3, ho3, hF3⟩
      go_wp2
      go_end0
      have hT := (CdTo.entered H.out (Fu.refl _ _) H.out.mp c.id H.out.idr (p := 4) (by decide) rfl hb3 ho3 hF3).a (by have := HO.out; rwa [HS2.out] at this) (by have := HF.out; rwa [HS2.out] at this)
      rw [HS2.out]
      exact ⟨rfl, hT⟩
end
end Bar
end Go.Proofs.Ytpjbeodnalgkfaa
