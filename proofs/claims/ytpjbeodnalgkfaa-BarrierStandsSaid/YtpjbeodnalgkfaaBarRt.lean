/- Layer 17: what is right, in memory. -/
import Derived.Test.YtpjbeodnalgkfaaBarV
set_option linter.all false
namespace Go.Proofs.Ytpjbeodnalgkfaa
open Go.RowKit
namespace Bar
section
variable (w : World)
set_option maxRecDepth 100000 in
set_option maxHeartbeats 8000000 in
theorem right_ (B : Nat) (P : Nat → Prop) (wb cg : Nat) (gs : Nat → Nat) (av ov xv iv : Value) (W : Wd) (h : WmX w B P wb cg gs av ov xv iv W) {N : Nat} (hL : Lim N W) (hN : N ≤ 100000) (hR : ∀ x, (someB W.g x = true → stC W.c x = 2) ∧ (stC W.c x = 2 → allB W.g x = true)) :
    Calls Try.prog 37 #[.pointer (some ⟨wb, 0, none⟩)] w fun r w' => r = .returned (.bool true) ∧ Below w.heap.size w w' := by
  obtain ⟨c0, c1, c2, c3, c4⟩ := h.cs
  obtain ⟨AI, cI, hiv, hcI, hmI, hnI⟩ := own_form h.ids
  obtain ⟨AA, cA, hav, hcA, hmA, hnA⟩ := own_form h.ptrs
  obtain ⟨q, hq⟩ : ∃ q, W.ids.length = q := ⟨_, rfl⟩
  obtain ⟨n, hn⟩ : ∃ n, W.g.length = n := ⟨_, rfl⟩
  rw [hq] at hiv
  rw [hn] at hav
  rw [hiv] at c4
  rw [hav] at c1
  have Hq := Lib.hid hq
  have Hn := Lib.hid hn
  have Hav := Lib.hid hav
  have hqN : q ≤ 100000 := by have := hL.ids; omega
  have hn5 : n ≤ 5 := by have := hL.g; omega
  have H := Lib.hid h
  have HL := Lib.hid hL
  have HR := Lib.hid hR
  have hrow : Is w AI q W.ids := by
    have := h.ids
    rw [hiv] at this
    have := rd_own (show w.ownsRow B 3 1 (.slice AI q cI) q (ivs W.ids) by rw [← hq]; rw [← hq] at this; exact this)
    exact this
  have HRow := Lib.hid hrow
  clear h hL hR hiv hav hq hn hcI hmI hnI hcA hmA hnA c2 c3 hrow
  go_enter Try.func37, Try.ntmps37
  go_wp2
  go_loopw [4, 5, 6, 8, 14] (fun _ _ _ _ iv wr => ∃ i : Nat, i ≤ q ∧ iv = .int .i64 (i : Int) ∧ Below w.heap.size w wr) (fun _ _ _ _ iv _ => q - (intOf iv).toNat)
  case atStart => exact ⟨0, Nat.zero_le _, rfl, Below.refl _ _⟩
  case round =>
    obtain ⟨i, hi, rfl, hB⟩ := hrel
    by_cases hlt : i < q
    · have hil : (i : Int) < (q : Int) := by omega
      have hi0 : (0 : Int) ≤ (i : Int) := by omega
      obtain ⟨ib, io, x, rfl, hx, cx⟩ := (HRow.out.below hB).get hlt
      have hxI : I64 x := HL.out.idsI x (List.mem_of_getElem? hx)
      have h1 := H.out.keep hB
      obtain ⟨d0, d1, _, _, _⟩ := h1.cs
      rw [Hav.out] at d1
      have hsz := hB.size
      clear hx c0 c1 c4 h1
      obtain ⟨wo, hwo⟩ : ∃ wo : World, wo = wr := ⟨_, rfl⟩
      clear hwo
      go_wp2_with fail
      go_loopw [5, 6, 8, 23] (fun sv lv _ jv w6 => ∃ j : Nat, j ≤ n ∧ jv = .int .i64 (j : Int) ∧ sv = .bool (someB (W.g.take j) x) ∧ lv = .bool (allB (W.g.take j) x) ∧ Below w.heap.size w w6) (fun _ _ _ jv _ => n - (intOf jv).toNat)
      case atStart => exact ⟨0, Nat.zero_le _, rfl, by simp [someB], by simp [allB], hB⟩
      case round =>
        obtain ⟨w6, rfl⟩ : ∃ w6 : World, w6 = wr := ⟨_, rfl⟩
        obtain ⟨j, hj, rfl, rfl, rfl, hB6⟩ := hrel
        have h6 := H.out.keep hB6
        by_cases hjlt : j < n
        · have hjl : (j : Int) < (n : Int) := by omega
          have hj0 : (0 : Int) ≤ (j : Int) := by omega
          have hjg : j < W.g.length := by rw [Hn.out]; exact hjlt
          obtain ⟨s, hs⟩ : ∃ s, W.g.getD j ag0 = s := ⟨_, rfl⟩
          have hga := getD_some (d := ag0) hjg
          rw [hs] at hga
          have hS := Lib.hid (some_succ hga x)
          have hA := Lib.hid (all_succ hga x)
          have hAg := h6.at_ hjg
          rw [hs] at hAg
          obtain ⟨pb, po, rfl, cp⟩ := h6.ptr Hav.out Hn.out.symm hjlt
          have hC : ∀ V, Below w6.heap.size w6 V → Calls Try.prog 17 #[.pointer (some ⟨gs j + 1, 0, none⟩), .int .i64 x] V fun r w' => r = .returned (.bool (cmB s x)) ∧ Below V.heap.size V w' := fun V hV => committed_ V (gs j) s (hAg.keep hV) x hxI
          have hP : ∀ V, Below w6.heap.size w6 V → Calls Try.prog 16 #[.pointer (some ⟨gs j + 1, 0, none⟩)] V fun r w' => r = .returned (.int .i64 s.pr) ∧ V = w' := fun V hV => prepared_ V (gs j) s (hAg.keep hV)
          have hs6 : w.heap.size ≤ w6.heap.size := hB6.size
          obtain ⟨m, hm⟩ : ∃ m, cmB s x = m := ⟨_, rfl⟩
          obtain ⟨sj, hsj⟩ : ∃ b, someB (W.g.take j) x = b := ⟨_, rfl⟩
          obtain ⟨aj, haj⟩ : ∃ b, allB (W.g.take j) x = b := ⟨_, rfl⟩
          rw [hm] at hC hS hA
          rw [hsj] at hS ⊢
          rw [haj] at hA ⊢
          clear hs hga hAg hm hsj haj h6 hB
          cases sj with
          | true =>
            cases aj with
            | true =>
              cases m with
              | true =>
                go_wp2_with fail
                refine (hC _ (Below.refl _ _)).mono ?_
                rintro r v1 ⟨rfl, hb1⟩
                go_wp2
                go_roundw
                case rel => exact ⟨j + 1, by omega, by go_num, by rw [hS.out]; first | rfl | simp, by rw [hA.out]; first | rfl | simp [Bool.and_comm], (hB6.trans (hb1.mono hs6))⟩
                case measure => simp [intOf]; omega
              | false =>
                by_cases hp : s.pr = x
                · have tp : (s.pr == x) = true := by simpa using hp
                  clear hp
                  go_wp2_with fail
                  refine (hC _ (Below.refl _ _)).mono ?_
                  rintro r v1 ⟨rfl, hb1⟩
                  go_wp2_with fail
                  refine (hP _ hb1).mono ?_
                  rintro r v9 ⟨rfl, rfl⟩
                  go_wp2
                  go_roundw
                  case rel => exact ⟨j + 1, by omega, by go_num, by rw [hS.out]; first | rfl | simp, by rw [hA.out]; first | rfl | simp [tp], (hB6.trans (hb1.mono hs6))⟩
                  case measure => simp [intOf]; omega
                · have tp : (s.pr == x) = false := by simpa using hp
                  clear hp
                  go_wp2_with fail
                  refine (hC _ (Below.refl _ _)).mono ?_
                  rintro r v1 ⟨rfl, hb1⟩
                  go_wp2_with fail
                  refine (hP _ hb1).mono ?_
                  rintro r v9 ⟨rfl, rfl⟩
                  go_wp2
                  go_roundw
                  case rel => exact ⟨j + 1, by omega, by go_num, by rw [hS.out]; first | rfl | simp, by rw [hA.out]; first | rfl | simp [tp], (hB6.trans (hb1.mono hs6))⟩
                  case measure => simp [intOf]; omega
            | false =>
              cases m with
              | true =>
                go_wp2
                go_roundw
                case rel => exact ⟨j + 1, by omega, by go_num, by rw [hS.out]; first | rfl | simp, by rw [hA.out]; first | rfl | simp [Bool.and_comm], hB6⟩
                case measure => simp [intOf]; omega
              | false =>
                go_wp2
                go_roundw
                case rel => exact ⟨j + 1, by omega, by go_num, by rw [hS.out]; first | rfl | simp, by rw [hA.out]; first | rfl | simp [Bool.and_comm], hB6⟩
                case measure => simp [intOf]; omega
          | false =>
            cases aj with
            | true =>
              cases m with
              | true =>
                go_wp2_with fail
                refine (hC _ (Below.refl _ _)).mono ?_
                rintro r v1 ⟨rfl, hb1⟩
                go_wp2_with fail
                refine (hC _ hb1).mono ?_
                rintro r v2 ⟨rfl, hb2⟩
                go_wp2
                go_roundw
                case rel => exact ⟨j + 1, by omega, by go_num, by rw [hS.out]; first | rfl | simp, by rw [hA.out]; first | rfl | simp [Bool.and_comm], (hB6.trans ((hb1.trans (hb2.mono hb1.size)).mono hs6))⟩
                case measure => simp [intOf]; omega
              | false =>
                by_cases hp : s.pr = x
                · have tp : (s.pr == x) = true := by simpa using hp
                  clear hp
                  go_wp2_with fail
                  refine (hC _ (Below.refl _ _)).mono ?_
                  rintro r v1 ⟨rfl, hb1⟩
                  go_wp2_with fail
                  refine (hC _ hb1).mono ?_
                  rintro r v2 ⟨rfl, hb2⟩
                  go_wp2_with fail
                  refine (hP _ (hb1.trans (hb2.mono hb1.size))).mono ?_
                  rintro r v9 ⟨rfl, rfl⟩
                  go_wp2
                  go_roundw
                  case rel => exact ⟨j + 1, by omega, by go_num, by rw [hS.out]; first | rfl | simp, by rw [hA.out]; first | rfl | simp [tp], (hB6.trans ((hb1.trans (hb2.mono hb1.size)).mono hs6))⟩
                  case measure => simp [intOf]; omega
                · have tp : (s.pr == x) = false := by simpa using hp
                  clear hp
                  go_wp2_with fail
                  refine (hC _ (Below.refl _ _)).mono ?_
                  rintro r v1 ⟨rfl, hb1⟩
                  go_wp2_with fail
                  refine (hC _ hb1).mono ?_
                  rintro r v2 ⟨rfl, hb2⟩
                  go_wp2_with fail
                  refine (hP _ (hb1.trans (hb2.mono hb1.size))).mono ?_
                  rintro r v9 ⟨rfl, rfl⟩
                  go_wp2
                  go_roundw
                  case rel => exact ⟨j + 1, by omega, by go_num, by rw [hS.out]; first | rfl | simp, by rw [hA.out]; first | rfl | simp [tp], (hB6.trans ((hb1.trans (hb2.mono hb1.size)).mono hs6))⟩
                  case measure => simp [intOf]; omega
            | false =>
              cases m with
              | true =>
                go_wp2_with fail
                refine (hC _ (Below.refl _ _)).mono ?_
                rintro r v1 ⟨rfl, hb1⟩
                go_wp2
                go_roundw
                case rel => exact ⟨j + 1, by omega, by go_num, by rw [hS.out]; first | rfl | simp, by rw [hA.out]; first | rfl | simp [Bool.and_comm], (hB6.trans (hb1.mono hs6))⟩
                case measure => simp [intOf]; omega
              | false =>
                go_wp2_with fail
                refine (hC _ (Below.refl _ _)).mono ?_
                rintro r v1 ⟨rfl, hb1⟩
                go_wp2
                go_roundw
                case rel => exact ⟨j + 1, by omega, by go_num, by rw [hS.out]; first | rfl | simp, by rw [hA.out]; first | rfl | simp [Bool.and_comm], (hB6.trans (hb1.mono hs6))⟩
                case measure => simp [intOf]; omega
        · have hjn : j = n := by omega
          subst hjn
          have hjl : ¬ (j : Int) < (j : Int) := by omega
          rw [List.take_of_length_le (by rw [Hn.out]; exact Nat.le_refl _)]
          obtain ⟨r1, r2⟩ := HR.out x
          obtain ⟨sj, hsj⟩ : ∃ b, someB W.g x = b := ⟨_, rfl⟩
          obtain ⟨aj, haj⟩ : ∃ b, allB W.g x = b := ⟨_, rfl⟩
          obtain ⟨T, hT⟩ : ∃ T, stC W.c x = T := ⟨_, rfl⟩
          rw [hsj, hT] at r1
          rw [haj, hT] at r2
          rw [hsj, haj]
          have hSt : ∀ V, V = w6 → Calls Try.prog 33 #[.pointer (some ⟨cg + 1, 0, none⟩), .int .i64 x] V fun r w' => r = .returned (.int .i64 T) ∧ V = w' := fun V hV => by
            subst hV
            rw [← hT]
            exact state_ _ cg _ W.c h6.co x hxI
          obtain ⟨e0, _, _, _, _⟩ := h6.cs
          clear hsj haj hT h6 hB d0 d1
          cases sj with
          | true =>
            obtain rfl := r1 rfl
            obtain rfl := r2 rfl
            clear r1 r2
            go_wp2_with fail
            refine (hSt _ rfl).mono ?_
            rintro r v9 ⟨rfl, rfl⟩
            go_wp2_with fail
            refine (hSt _ rfl).mono ?_
            rintro r v9 ⟨rfl, rfl⟩
            go_wp2_with fail
            refine (hSt _ rfl).mono ?_
            rintro r v9 ⟨rfl, rfl⟩
            go_wp2
            go_roundw
            case rel => exact ⟨i + 1, by omega, by go_num, hB6⟩
            case measure => simp [intOf]; omega
          | false =>
            clear r1
            by_cases hT2 : T = 2
            · subst hT2
              obtain rfl := r2 rfl
              clear r2
              go_wp2_with fail
              refine (hSt _ rfl).mono ?_
              rintro r v9 ⟨rfl, rfl⟩
              go_wp2_with fail
              refine (hSt _ rfl).mono ?_
              rintro r v9 ⟨rfl, rfl⟩
              go_wp2
              go_roundw
              case rel => exact ⟨i + 1, by omega, by go_num, hB6⟩
              case measure => simp [intOf]; omega
            · have t2 : (T == 2) = false := by simpa using hT2
              clear r2
              by_cases hT3 : T = 3
              · have t3 : (T == 3) = true := by simpa using hT3
                clear hT2 hT3
                go_wp2_with fail
                refine (hSt _ rfl).mono ?_
                rintro r v9 ⟨rfl, rfl⟩
                go_wp2_with fail
                refine (hSt _ rfl).mono ?_
                rintro r v9 ⟨rfl, rfl⟩
                go_wp2
                go_roundw
                case rel => exact ⟨i + 1, by omega, by go_num, hB6⟩
                case measure => simp [intOf]; omega
              · have t3 : (T == 3) = false := by simpa using hT3
                clear hT2 hT3
                go_wp2_with fail
                refine (hSt _ rfl).mono ?_
                rintro r v9 ⟨rfl, rfl⟩
                go_wp2_with fail
                refine (hSt _ rfl).mono ?_
                rintro r v9 ⟨rfl, rfl⟩
                go_wp2
                go_roundw
                case rel => exact ⟨i + 1, by omega, by go_num, hB6⟩
                case measure => simp [intOf]; omega
    · have he : i = q := by omega
      subst he
      have hil : ¬ (i : Int) < (i : Int) := by omega
      go_wp2
      go_ret
      exact ⟨rfl, hB⟩
end
end Bar
end Go.Proofs.Ytpjbeodnalgkfaa
