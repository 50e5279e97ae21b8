/- Layer 17: what an agent does. -/
import Derived.Test.YtpjbeodnalgkfaaBarB
set_option linter.all false
namespace Go.Proofs.Ytpjbeodnalgkfaa
open Go.RowKit
namespace Bar
/-- What an order answers, and leaves. -/
def OrdA (g : Nat) (a : Ag) (k : Int) (w w' : World) (r : Ending) (x : Int) (s : Ag) : Prop := r = .returned (.int .i64 x) ∧ AgX w' g s ∧ Fu (fun k => k = g ∨ k = g + 1) w w'
section
variable (w : World) (g : Nat) (a : Ag)
set_option maxRecDepth 100000 in
set_option maxHeartbeats 2000000 in
theorem other_ (x id : Int) : Calls Try.prog 52 #[.int .i64 x, .int .i64 id] w fun r w' => r = .returned (.bool (decide (x ≠ 0 ∧ x ≠ id))) ∧ w = w' := by
  by_cases h0 : x = 0
  · subst h0
    go_enter Try.func52, Try.ntmps52
    go_wp2
    go_ret
    exact ⟨by simp, rfl⟩
  · have t0 : (x == 0) = false := by simpa using h0
    by_cases h1 : x = id
    · subst h1
      have HE := Lib.hid (show decide (x ≠ 0 ∧ x ≠ x) = false by simp)
      go_enter Try.func52, Try.ntmps52
      go_wp2
      go_ret
      exact ⟨by rw [HE.out]; first | rfl | simp [bne, t0, t1], rfl⟩
    · have t1 : (x == id) = false := by simpa using h1
      have HE := Lib.hid (show decide (x ≠ 0 ∧ x ≠ id) = true by simp [h0, h1])
      go_enter Try.func52, Try.ntmps52
      go_wp2
      go_ret
      exact ⟨by rw [HE.out]; first | rfl | simp [bne, t0, t1], rfl⟩
set_option maxRecDepth 100000 in
set_option maxHeartbeats 2000000 in
theorem freeze_ (h : AgX w g a) (id : Int) (hi : I64 id) : Calls Try.prog 39 #[.pointer (some ⟨g + 1, 0, none⟩), .int .i64 id] w fun r w' => r = .returned (.int .i64 (if refF a id then 14 else 11)) ∧ AgX w' g (if refF a id then a else { a with fz := id }) ∧ Fu (fun k => k = g ∨ k = g + 1) w w' := by
  have hC := committed_ w g a h id hi
  have hR : refF a id ↔ (cmB a id = true ∨ decide (a.fz ≠ 0 ∧ a.fz ≠ id) = true ∨ decide (a.pr ≠ 0 ∧ a.pr ≠ id) = true) := by simp [refF, cmB]
  obtain ⟨b1, hb1⟩ : ∃ b, cmB a id = b := ⟨_, rfl⟩
  obtain ⟨b2, hb2⟩ : ∃ b, decide (a.fz ≠ 0 ∧ a.fz ≠ id) = b := ⟨_, rfl⟩
  obtain ⟨b3, hb3⟩ : ∃ b, decide (a.pr ≠ 0 ∧ a.pr ≠ id) = b := ⟨_, rfl⟩
  rw [hb1, hb2, hb3] at hR
  rw [hb1] at hC
  have hO2 : ∀ W, Calls Try.prog 52 #[.int .i64 a.fz, .int .i64 id] W fun r w' => r = .returned (.bool b2) ∧ W = w' := fun W => hb2 ▸ other_ W a.fz id
  have hO3 : ∀ W, Calls Try.prog 52 #[.int .i64 a.pr, .int .i64 id] W fun r w' => r = .returned (.bool b3) ∧ W = w' := fun W => hb3 ▸ other_ W a.pr id
  have H := Lib.hid h
  clear hb1 hb2 hb3 h
  cases b1 with
  | true =>
    have HR : refF a id := hR.2 (.inl rfl)
    rw [if_pos HR, if_pos HR]
    clear hR HR
    go_enter Try.func39, Try.ntmps39
    go_wp2_with fail
    refine hC.mono ?_
    rintro r w1 ⟨rfl, hb⟩
    go_wp2
    go_ret
    exact ⟨rfl, H.out.keep hb, Fu.ofBelow hb⟩
  | false =>
    cases b2 with
    | true =>
      have HR : refF a id := hR.2 (.inr (.inl rfl))
      rw [if_pos HR, if_pos HR]
      clear hR HR
      go_enter Try.func39, Try.ntmps39
      go_wp2_with fail
      refine hC.mono ?_
      rintro r w1 ⟨rfl, hb⟩
      have h1 := H.out.keep hb
      obtain ⟨c0, c1, c2, c3⟩ := h1.cells
      clear h1 hC
      go_wp2_with fail
      refine (hO2 _).mono ?_
      rintro r w2 ⟨rfl, rfl⟩
      go_wp2
      go_ret
      exact ⟨rfl, H.out.keep hb, Fu.ofBelow hb⟩
    | false =>
      cases b3 with
      | true =>
        have HR : refF a id := hR.2 (.inr (.inr rfl))
        rw [if_pos HR, if_pos HR]
        clear hR HR
        go_enter Try.func39, Try.ntmps39
        go_wp2_with fail
        refine hC.mono ?_
        rintro r w1 ⟨rfl, hb⟩
        have h1 := H.out.keep hb
        obtain ⟨c0, c1, c2, c3⟩ := h1.cells
        clear h1 hC
        go_wp2_with fail
        refine (hO2 _).mono ?_
        rintro r w2 ⟨rfl, rfl⟩
        go_wp2_with fail
        refine (hO3 _).mono ?_
        rintro r w2 ⟨rfl, rfl⟩
        go_wp2
        go_ret
        exact ⟨rfl, H.out.keep hb, Fu.ofBelow hb⟩
      | false =>
        have HR : ¬ refF a id := fun q => by have := hR.1 q; simp at this
        rw [if_neg HR, if_neg HR]
        clear hR HR
        go_enter Try.func39, Try.ntmps39
        go_wp2_with fail
        refine hC.mono ?_
        rintro r w1 ⟨rfl, hb⟩
        have h1 := H.out.keep hb
        obtain ⟨c0, c1, c2, c3⟩ := h1.cells
        have f1 := h1.blk.free 1
        have H1 := Lib.hid h1
        clear h1 hC
        go_wp2_with fail
        refine (hO2 _).mono ?_
        rintro r w2 ⟨rfl, rfl⟩
        go_wp2_with fail
        refine (hO3 _).mono ?_
        rintro r w2 ⟨rfl, rfl⟩
        go_wp2
        go_ret
        exact ⟨rfl, H1.out.setF id, fu_set (Fu.ofBelow hb) _ _ _ (.inr rfl)⟩
set_option maxRecDepth 100000 in
set_option maxHeartbeats 2000000 in
theorem snap_ (h : AgX w g a) (id : Int) : Calls Try.prog 40 #[.pointer (some ⟨g + 1, 0, none⟩), .int .i64 id] w fun r w' => r = .returned (.int .i64 (if a.pr ≠ id ∧ a.fz ≠ id then 14 else 12)) ∧ AgX w' g (if a.pr ≠ id ∧ a.fz ≠ id then a else { a with pr := id }) ∧ Fu (fun k => k = g ∨ k = g + 1) w w' := by
  obtain ⟨c0, c1, c2, c3⟩ := h.cells
  have f2 := h.blk.free 2
  have H := Lib.hid h
  clear h
  by_cases h0 : a.pr = id
  · have HI : ¬ (a.pr ≠ id ∧ a.fz ≠ id) := fun q => q.1 h0
    rw [if_neg HI, if_neg HI]
    have HA : ({ a with pr := id } : Ag) = a := by rw [← h0]
    rw [HA]
    have t0 : (a.pr == id) = true := by simpa using h0
    clear HI HA h0
    go_enter Try.func40, Try.ntmps40
    go_wp2
    go_ret
    exact ⟨rfl, H.out, Fu.refl _ _⟩
  · have t0 : (a.pr == id) = false := by simpa using h0
    by_cases h1 : a.fz = id
    · have HI : ¬ (a.pr ≠ id ∧ a.fz ≠ id) := fun q => q.2 h1
      rw [if_neg HI, if_neg HI]
      have t1 : (a.fz == id) = true := by simpa using h1
      clear HI h0 h1
      go_enter Try.func40, Try.ntmps40
      go_wp2
      go_ret
      exact ⟨rfl, H.out.setP id, fu_set (Fu.refl _ _) _ _ _ (.inr rfl)⟩
    · have HI : a.pr ≠ id ∧ a.fz ≠ id := ⟨h0, h1⟩
      rw [if_pos HI, if_pos HI]
      have t1 : (a.fz == id) = false := by simpa using h1
      clear HI h0 h1
      go_enter Try.func40, Try.ntmps40
      go_wp2
      go_ret
      exact ⟨rfl, H.out, Fu.refl _ _⟩
set_option maxRecDepth 100000 in
set_option maxHeartbeats 2000000 in
theorem commit_ (h : AgX w g a) (id : Int) (hi : I64 id) (hn : a.cm.length < 9000000000000000000) : Calls Try.prog 41 #[.pointer (some ⟨g + 1, 0, none⟩), .int .i64 id] w fun r w' => r = .returned (.int .i64 (if a.pr = id ∨ id ∈ a.cm then 13 else 14)) ∧ AgX w' g (if a.pr = id then ⟨0, 0, a.cm ++ [id]⟩ else a) ∧ Fu (fun k => k = g ∨ k = g + 1) w w' := by
  obtain ⟨c0, c1, c2, c3⟩ := h.cells
  have H := Lib.hid h
  by_cases h0 : a.pr = id
  · rw [if_pos (.inl h0), if_pos h0]
    have t0 : (a.pr == id) = true := by simpa using h0
    obtain ⟨w1, hst, hs1, hg1⟩ := h.set.store (c' := cmB ⟨0, 0, a.cm ++ [id]⟩) hn hi (fun j => by
      unfold cmB
      by_cases e : j = id
      · subst e; simp
      · simp [e])
    have k1 := h.blk.grown hg1 (by simp)
    have d0 := k1.cell (j := 1) (u := .int .i64 a.fz) rfl
    have d1 := k1.cell (j := 2) (u := .int .i64 a.pr) rfl
    have f1 := k1.free 1
    have f2 := k1.free 2
    have k2 := (k1.setCell 2 (.int .i64 0)).setCell 1 (.int .i64 0)
    have hf1 : Fu (fun k => k = g + 1) w1 ((w1.setCell ⟨g + 1, 2, none⟩ (.int .i64 0)).setCell ⟨g + 1, 1, none⟩ (.int .i64 0)) := fu_set (S := fun k => k = g + 1) (fu_set (S := fun k => k = g + 1) (Fu.refl _ _) _ _ _ rfl) _ _ _ rfl
    have hs2 := hs1.fu hf1 (by omega)
    have hF : Fu (fun k => k = g ∨ k = g + 1) w ((w1.setCell ⟨g + 1, 2, none⟩ (.int .i64 0)).setCell ⟨g + 1, 1, none⟩ (.int .i64 0)) := (Fu.ofGrown hg1 (fun k q => .inl (by injection q with q; exact q.symm))).then hf1 (fun j q => .inl (.inr q))
    have K := Lib.hid k2
    have S2 := Lib.hid hs2
    have HF := Lib.hid hF
    clear h0 h hs1 hg1 k1 k2 hf1 hs2 hF
    go_enter Try.func41, Try.ntmps41
    go_wp2
    go_ret
    exact ⟨rfl, ⟨by simpa using K.out, by simpa using S2.out⟩, HF.out⟩
  · have t0 : (a.pr == id) = false := by simpa using h0
    have hC := committed_ w g a h id hi
    cases hb : cmB a id with
    | true =>
      have hm : id ∈ a.cm := by simpa [cmB] using hb
      rw [if_pos (.inr hm), if_neg h0]
      rw [hb] at hC
      clear hm hb h0 h
      go_enter Try.func41, Try.ntmps41
      go_wp2_with fail
      refine hC.mono ?_
      rintro r w1 ⟨rfl, hb⟩
      go_wp2
      go_ret
      exact ⟨rfl, H.out.keep hb, Fu.ofBelow hb⟩
    | false =>
      have hm : id ∉ a.cm := by simpa [cmB] using hb
      rw [if_neg (fun q => q.elim h0 hm), if_neg h0]
      rw [hb] at hC
      clear hm hb h0 h
      go_enter Try.func41, Try.ntmps41
      go_wp2_with fail
      refine hC.mono ?_
      rintro r w1 ⟨rfl, hb⟩
      go_wp2
      go_ret
      exact ⟨rfl, H.out.keep hb, Fu.ofBelow hb⟩
set_option maxRecDepth 100000 in
set_option maxHeartbeats 2000000 in
theorem abort_ (h : AgX w g a) (id : Int) (hi : I64 id) : Calls Try.prog 42 #[.pointer (some ⟨g + 1, 0, none⟩), .int .i64 id] w fun r w' => r = .returned (.int .i64 (if id ∈ a.cm then 14 else 13)) ∧ AgX w' g (if id ∈ a.cm then a else ⟨if a.fz = id then 0 else a.fz, if a.pr = id then 0 else a.pr, a.cm⟩) ∧ Fu (fun k => k = g ∨ k = g + 1) w w' := by
  have hC := committed_ w g a h id hi
  have H := Lib.hid h
  cases hb : cmB a id with
  | true =>
    have hm : id ∈ a.cm := by simpa [cmB] using hb
    rw [if_pos hm, if_pos hm]
    rw [hb] at hC
    clear hm hb h
    go_enter Try.func42, Try.ntmps42
    go_wp2_with fail
    refine hC.mono ?_
    rintro r w1 ⟨rfl, hb⟩
    go_wp2
    go_ret
    exact ⟨rfl, H.out.keep hb, Fu.ofBelow hb⟩
  | false =>
    have hm : id ∉ a.cm := by simpa [cmB] using hb
    rw [if_neg hm, if_neg hm]
    rw [hb] at hC
    clear hm hb h
    by_cases h0 : a.fz = id
    · have t0 : (a.fz == id) = true := by simpa using h0
      by_cases h1 : a.pr = id
      · have t1 : (a.pr == id) = true := by simpa using h1
        rw [if_pos h0, if_pos h1]
        clear h0 h1
        go_enter Try.func42, Try.ntmps42
        go_wp2_with fail
        refine hC.mono ?_
        rintro r w1 ⟨rfl, hb⟩
        have h1 := H.out.keep hb
        obtain ⟨c0, c1, c2, c3⟩ := h1.cells
        have f1 := h1.blk.free 1
        have f2 := h1.blk.free 2
        have H1 := Lib.hid h1
        clear h1 hC
        go_wp2
        go_ret
        exact ⟨rfl, (H1.out.setF 0).setP 0, fu_set (fu_set (Fu.ofBelow hb) _ _ _ (.inr rfl)) _ _ _ (.inr rfl)⟩
      · have t1 : (a.pr == id) = false := by simpa using h1
        rw [if_pos h0, if_neg h1]
        clear h0 h1
        go_enter Try.func42, Try.ntmps42
        go_wp2_with fail
        refine hC.mono ?_
        rintro r w1 ⟨rfl, hb⟩
        have h1 := H.out.keep hb
        obtain ⟨c0, c1, c2, c3⟩ := h1.cells
        have f1 := h1.blk.free 1
        have H1 := Lib.hid h1
        clear h1 hC
        go_wp2
        go_ret
        exact ⟨rfl, H1.out.setF 0, fu_set (Fu.ofBelow hb) _ _ _ (.inr rfl)⟩
    · have t0 : (a.fz == id) = false := by simpa using h0
      by_cases h1 : a.pr = id
      · have t1 : (a.pr == id) = true := by simpa using h1
        rw [if_neg h0, if_pos h1]
        clear h0 h1
        go_enter Try.func42, Try.ntmps42
        go_wp2_with fail
        refine hC.mono ?_
        rintro r w1 ⟨rfl, hb⟩
        have h1 := H.out.keep hb
        obtain ⟨c0, c1, c2, c3⟩ := h1.cells
        have f2 := h1.blk.free 2
        have H1 := Lib.hid h1
        clear h1 hC
        go_wp2
        go_ret
        exact ⟨rfl, H1.out.setP 0, fu_set (Fu.ofBelow hb) _ _ _ (.inr rfl)⟩
      · have t1 : (a.pr == id) = false := by simpa using h1
        rw [if_neg h0, if_neg h1]
        clear h0 h1
        go_enter Try.func42, Try.ntmps42
        go_wp2_with fail
        refine hC.mono ?_
        rintro r w1 ⟨rfl, hb⟩
        have h1 := H.out.keep hb
        obtain ⟨c0, c1, c2, c3⟩ := h1.cells
        clear h1 hC
        go_wp2
        go_ret
        exact ⟨rfl, H.out.keep hb, Fu.ofBelow hb⟩
set_option maxRecDepth 100000 in
set_option maxHeartbeats 2000000 in
theorem order_ (h : AgX w g a) (k id : Int) (hi : I64 id) (hn : a.cm.length < 9000000000000000000) : Calls Try.prog 13 #[.pointer (some ⟨g + 1, 0, none⟩), .int .i64 k, .int .i64 id] w fun r w' => r = .returned (.int .i64 (ordK a k id)) ∧ AgX w' g (ordS a k id) ∧ Fu (fun k => k = g ∨ k = g + 1) w w' := by
  obtain ⟨c0, c1, c2, c3⟩ := h.cells
  have H := Lib.hid h
  unfold ordK ordS
  by_cases h0 : id < 1
  · rw [if_pos h0, if_pos h0]
    clear h
    go_enter Try.func13, Try.ntmps13
    go_wp2_with fail
    refine (agiven_ w (g + 1) c0).mono ?_
    rintro r w' ⟨rfl, rfl⟩
    go_wp2
    go_ret
    exact ⟨rfl, H.out, Fu.refl _ _⟩
  · rw [if_neg h0, if_neg h0]
    by_cases k1 : k = 1
    · rw [if_pos k1, if_pos k1]
      subst k1
      have hC := freeze_ w g a h id hi
      generalize (if refF a id then (14 : Int) else 11) = x at hC ⊢
      generalize (if refF a id then a else { a with fz := id }) = s at hC ⊢
      clear h
      go_enter Try.func13, Try.ntmps13
      go_wp2_with fail
      refine (agiven_ w (g + 1) c0).mono ?_
      rintro r w' ⟨rfl, rfl⟩
      go_wp2_with fail
      refine hC.mono ?_
      rintro r w' ⟨rfl, hA, hF⟩
      go_wp2
      go_ret
      exact ⟨rfl, hA, hF⟩
    · rw [if_neg k1, if_neg k1]
      have t1 : (k == 1) = false := by simpa using k1
      by_cases k2 : k = 2
      · rw [if_pos k2, if_pos k2]
        subst k2
        have hC := snap_ w g a h id
        generalize (if a.pr ≠ id ∧ a.fz ≠ id then (14 : Int) else 12) = x at hC ⊢
        generalize (if a.pr ≠ id ∧ a.fz ≠ id then a else { a with pr := id }) = s at hC ⊢
        clear h
        go_enter Try.func13, Try.ntmps13
        go_wp2_with fail
        refine (agiven_ w (g + 1) c0).mono ?_
        rintro r w' ⟨rfl, rfl⟩
        go_wp2_with fail
        refine hC.mono ?_
        rintro r w' ⟨rfl, hA, hF⟩
        go_wp2
        go_ret
        exact ⟨rfl, hA, hF⟩
      · rw [if_neg k2, if_neg k2]
        have t2 : (k == 2) = false := by simpa using k2
        by_cases k3 : k = 3
        · rw [if_pos k3, if_pos k3]
          subst k3
          have hC := commit_ w g a h id hi hn
          generalize (if a.pr = id ∨ id ∈ a.cm then (13 : Int) else 14) = x at hC ⊢
          generalize (if a.pr = id then (⟨0, 0, a.cm ++ [id]⟩ : Ag) else a) = s at hC ⊢
          clear h
          go_enter Try.func13, Try.ntmps13
          go_wp2_with fail
          refine (agiven_ w (g + 1) c0).mono ?_
          rintro r w' ⟨rfl, rfl⟩
          go_wp2_with fail
          refine hC.mono ?_
          rintro r w' ⟨rfl, hA, hF⟩
          go_wp2
          go_ret
          exact ⟨rfl, hA, hF⟩
        · rw [if_neg k3, if_neg k3]
          have t3 : (k == 3) = false := by simpa using k3
          by_cases k4 : k = 4
          · rw [if_pos k4, if_pos k4]
            subst k4
            have hC := abort_ w g a h id hi
            generalize (if id ∈ a.cm then (14 : Int) else 13) = x at hC ⊢
            generalize (if id ∈ a.cm then a else ⟨if a.fz = id then 0 else a.fz, if a.pr = id then 0 else a.pr, a.cm⟩) = s at hC ⊢
            clear h
            go_enter Try.func13, Try.ntmps13
            go_wp2_with fail
            refine (agiven_ w (g + 1) c0).mono ?_
            rintro r w' ⟨rfl, rfl⟩
            go_wp2_with fail
            refine hC.mono ?_
            rintro r w' ⟨rfl, hA, hF⟩
            go_wp2
            go_ret
            exact ⟨rfl, hA, hF⟩
          · rw [if_neg k4, if_neg k4]
            have t4 : (k == 4) = false := by simpa using k4
            clear k1 k2 k3 k4 h
            go_enter Try.func13, Try.ntmps13
            go_wp2_with fail
            refine (agiven_ w (g + 1) c0).mono ?_
            rintro r w' ⟨rfl, rfl⟩
            go_wp2
            go_ret
            exact ⟨rfl, H.out, Fu.refl _ _⟩
set_option maxRecDepth 100000 in
set_option maxHeartbeats 2000000 in
theorem acrash_ (h : AgX w g a) : Calls Try.prog 12 #[.pointer (some ⟨g + 1, 0, none⟩)] w fun r w' => r = .returned (.tuple #[]) ∧ AgX w' g (crA a) ∧ Fu (fun k => k = g ∨ k = g + 1) w w' := by
  obtain ⟨c0, c1, c2, c3⟩ := h.cells
  have f1 := h.blk.free 1
  have H := Lib.hid h
  clear h
  go_enter Try.func12, Try.ntmps12
  go_wp2_with fail
  refine (agiven_ w (g + 1) c0).mono ?_
  rintro r w' ⟨rfl, rfl⟩
  go_wp2
  go_end0
  exact ⟨rfl, H.out.setF 0, fu_set (Fu.refl _ _) _ _ _ (.inr rfl)⟩
end
end Bar
end Go.Proofs.Ytpjbeodnalgkfaa
