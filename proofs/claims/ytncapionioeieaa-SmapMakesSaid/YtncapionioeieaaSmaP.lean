/- Layer 13: the document's New. -/
import Derived.Test.YtncapionioeieaaSmaN
import Derived.Deep.RegionLaw
set_option linter.all false
namespace Go.Proofs.Ytncapionioeieaa
open Go.RowKit
namespace Sma

theorem po_grown {w w' : World} {row : Option Nat} {base : Nat} {v : Value} {n : Nat} {l : List Pc} (h : Po w base v n l) (hg : w.grownBy w' row) (hne : ∀ k, v.ownBlock = some k → some k ≠ row) : Po w' base v n l := by
  refine ⟨h.1, ?_⟩
  rcases h.2 with h2 | ⟨g, cap, cur, rfl, hb, hh, r⟩
  · exact .inl h2
  · exact .inr ⟨g, cap, cur, rfl, hb, (hg.block g (h.lt g rfl).2 (hne g rfl)).trans hh, r⟩
section
variable (w : World)
set_option maxRecDepth 100000 in
set_option maxHeartbeats 4000000 in
theorem rnew_ (n : Int) (A : Option Addr) (k c : Nat) (l : List Int) (h : Is w A k l) (hk : k ≤ 9223372036854775807) (hn : I64 n) : Calls Try.prog 11 #[.int .i64 n, .slice A k c] w fun e w' => RAns w w' e (newA n l) := by
  have hn0 := hn
  unfold I64 at hn
  have hbx : Below w.heap.size w (w.alloc rzo) := (Below.refl w.heap.size w).alloc (Nat.le_refl _) _
  have hq := Blk.new w 25 #[.int .i64 0, .int .i64 0, .slice none 0 0] rfl
  have hI1 := h.below hbx
  have hsz : (w.alloc rzo).heap.size = w.heap.size + 1 := by simp
  have hkl := h.len
  have Hl := Lib.hid hkl
  by_cases b0 : n < 1
  · have HR := Lib.hid (new_bad (n := n) (l := l) (.inl b0))
    clear hkl
    go_enter Try.func11, Try.ntmps11
    go_wp2
    refine bodyPost_ret (results_r rfl rfl hq) rfl ?_
    exact rans_zero HR.out hbx
  by_cases b1 : 1024 < n
  · have HR := Lib.hid (new_bad (n := n) (l := l) (.inr (.inl b1)))
    clear hkl
    go_enter Try.func11, Try.ntmps11
    go_wp2
    refine bodyPost_ret (results_r rfl rfl hq) rfl ?_
    exact rans_zero HR.out hbx
  by_cases hk0 : k = 0
  · have HR := Lib.hid (new_bad (n := n) (l := l) (.inr (.inr (.inl (List.eq_nil_of_length_eq_zero (by omega))))))
    have t0 : ((k : Int) == 0) = true := by simp [hk0]
    clear hkl hk0
    go_enter Try.func11, Try.ntmps11
    go_wp2
    refine bodyPost_ret (results_r rfl rfl hq) rfl ?_
    exact rans_zero HR.out hbx
  have t0 : ((k : Int) == 0) = false := by simp; omega
  have hne : l ≠ [] := fun e => by rw [e] at hkl; simp at hkl; omega
  obtain ⟨N, rfl⟩ := Int.eq_ofNat_of_zero_le (show 0 ≤ n by omega)
  clear hkl
  go_enter Try.func11, Try.ntmps11
  go_wp2_with fail
  generalize (w.alloc rzo) = w1 at *
  go_loopw [6] (fun iv wr => ∃ i : Nat, i ≤ k ∧ iv = .int .i64 (i : Int) ∧ (l.drop i).all ndB = l.all ndB ∧ wr = w1) (fun iv _ => k - (intOf iv).toNat)
  case atStart => exact ⟨0, Nat.zero_le _, rfl, rfl, rfl⟩
  case round =>
    obtain ⟨i, hi, rfl, hL, rfl⟩ := hrel
    by_cases hlt : i < k
    · have hil : (i : Int) < (k : Int) := by omega
      have hi0 : (0 : Int) ≤ (i : Int) := by omega
      obtain ⟨b, o, x, rfl, hx, hxi, cx⟩ := hI1.get hlt
      rw [all_at hx] at hL
      clear hx
      cases hnd : ndB x with
      | false =>
        have HR := Lib.hid (new_bad (n := (N : Int)) (l := l) (.inr (.inr (.inr (by rw [← hL, hnd]; rfl)))))
        obtain ⟨x0, x1, x2, f0, f1, f2⟩ := cells3 hq
        clear hL
        go_wp2_with fail
        refine (rnode_ _ x hxi).mono ?_
        rw [hnd]
        rintro e w2 ⟨rfl, rfl⟩
        go_wp2
        refine bodyPost_ret (results_r rfl rfl (blk_set3 hq (.int .i64 0) (.int .i64 0) (.slice none 0 0))) rfl ?_
        exact rans_zero HR.out (below_set3 hbx (Nat.le_refl _) (Nat.le_refl _) _ _ _)
      | true =>
        have HL := Lib.hid (show (l.drop (i + 1)).all ndB = l.all ndB by rw [← hL, hnd]; rfl)
        clear hL
        go_wp2_with fail
        refine (rnode_ _ x hxi).mono ?_
        rw [hnd]
        rintro e w2 ⟨rfl, rfl⟩
        go_wp2
        go_roundw
        case rel => exact ⟨i + 1, by omega, by go_num, HL.out, by first | rfl | trivial⟩
        case measure => simp [intOf]; omega
    · have hin : (k : Int) ≤ (i : Int) := by omega
      have hall : l.all ndB = true := by rw [← hL, drop_end Hl.out (by omega)]; rfl
      obtain ⟨x0, x1, x2, f0, f1, f2⟩ := cells3 hq
      clear hL
      by_cases hb1 : 16 < k
      · have hb1' : (16 : Int) < (k : Int) := by omega
        have HR := Lib.hid (new_many (n := (N : Int)) (l := l) (by omega) (by omega) hne hall (.inl (by have := Hl.out; omega)))
        go_wp2
        refine bodyPost_ret (results_r rfl rfl (blk_set3 hq (.int .i64 0) (.int .i64 0) (.slice none 0 0))) rfl ?_
        exact rans_zero HR.out (below_set3 hbx (Nat.le_refl _) (Nat.le_refl _) _ _ _)
      by_cases hb2 : N < k
      · have hb2' : (N : Int) < (k : Int) := by omega
        have hb1' : ¬ (16 : Int) < (k : Int) := by omega
        have HR := Lib.hid (new_many (n := (N : Int)) (l := l) (by omega) (by omega) hne hall (.inr (by have := Hl.out; omega)))
        go_wp2
        refine bodyPost_ret (results_r rfl rfl (blk_set3 hq (.int .i64 0) (.int .i64 0) (.slice none 0 0))) rfl ?_
        exact rans_zero HR.out (below_set3 hbx (Nat.le_refl _) (Nat.le_refl _) _ _ _)
      have hb1' : ¬ (16 : Int) < (k : Int) := by omega
      have hb2' : ¬ (N : Int) < (k : Int) := by omega
      have hnl := new_is (n := (N : Int)) (l := l) (by omega) (by omega) hne hall (by have := Hl.out; omega)
      rw [← Hl.out] at hnl
      have HR := Lib.hid (show newA (N : Int) l = (⟨1, (N : Int), shareL (N / k) (N % k) 0 0 l⟩, 0) from hnl)
      have hfit := share_fit (n := N) (l := l) (by omega) (by have := Hl.out; omega) hI1.2
      rw [← Hl.out] at hfit
      have hcl0 : ∀ i, i ≤ k → cutA (N / k) (N % k) i ≤ N := fun i hi => cut_le (n := N) (by omega) hi
      obtain ⟨S, hS, HS⟩ : ∃ S : Nat, (N : Int) / (k : Int) = (S : Int) ∧ Hid (S = N / k) := ⟨N / k, (Int.natCast_ediv N k).symm, Lib.hid rfl⟩
      obtain ⟨R, hR, HRR⟩ : ∃ R : Nat, (N : Int) % (k : Int) = (R : Int) ∧ Hid (R = N % k) := ⟨N % k, (Int.natCast_emod N k).symm, Lib.hid rfl⟩
      have HT := Lib.hid (show shareL (N / k) (N % k) 0 0 l = shareL S R 0 0 l by rw [HS.out, HRR.out])
      have hcl : ∀ i, i ≤ k → cutA S R i ≤ 1024 := fun i hi => by
        have := hcl0 i hi
        rw [HS.out, HRR.out]
        omega
      have hSn : S ≤ 1024 := by
        have : N / k ≤ N := Nat.div_le_self N k
        rw [HS.out]
        omega
      have hw64 : wrap64 (S : Int) = (S : Int) := by unfold wrap64; omega
      have hsl := Lib.hid (shareL_len S R l 0 0)
      have hk0' : ¬ ((k : Int) = 0) := by omega
      obtain ⟨i0, hi0', hz0, hz1, hz2⟩ := pc_info
      have Hz := Lib.hid hz2
      have hal := (Below.refl wr.heap.size wr).alloc (Nat.le_refl _) (.cells #[.int .i64 1, .int .i64 (N : Int), .slice none 0 0] 25)
      have hq8 := Blk.new wr 25 #[.int .i64 1, .int .i64 (N : Int), .slice none 0 0] (g := w.heap.size + 1) hsz.symm
      have hqq := hq.keep hal
      have hB8 := below_step hbx hal (by omega)
      clear hz2 hnl hcl0 hb1 hb2 x0 x1 x2 f0 f1 f2 hq hI1
      go_wp2_with fail
      have Hfit := Lib.hid hfit
      clear hfit hal hin hlt
      generalize (wr.alloc (.cells #[.int .i64 1, .int .i64 (N : Int), .slice none 0 0] 25)) = w8 at *
      clear hbx hsz
      go_loopw [9, 10] (fun av iv wx => ∃ (i : Nat) (Ai : Option Addr) (ci : Nat), i ≤ k ∧ iv = .int .i64 (i : Int) ∧ av = .int .i64 (cutA S R i : Int) ∧ Blk wx (w.heap.size + 1) 25 #[.int .i64 1, .int .i64 (N : Int), .slice Ai i ci] ∧ Po wx (w.heap.size + 2) (.slice Ai i ci) i ((shareL S R 0 0 l).take i) ∧ Blk wx w.heap.size 25 #[.int .i64 0, .int .i64 0, .slice none 0 0] ∧ Below w.heap.size w wx) (fun _ iv _ => k - (intOf iv).toNat)
      case atStart => exact ⟨0, none, 0, Nat.zero_le _, rfl, by simp [cutA], hq8, po_nil _ _, hqq, hB8⟩
      case round =>
        obtain ⟨j, Ai, ci, hj, rfl, rfl, hbb, hown, hbq, hB⟩ := hrel
        clear hq8 hqq hB8
        obtain ⟨wx, rfl⟩ : ∃ wx : World, wx = wr := ⟨_, rfl⟩
        by_cases hlt : j < k
        · have hil : (j : Int) < (k : Int) := by omega
          have hi0 : (0 : Int) ≤ (j : Int) := by omega
          have hii : j < l.length := by have := Hl.out; omega
          obtain ⟨b, o, x, rfl, hx, hxi, cx⟩ := (h.below hB).get hlt
          have hxl : l[j] = x := by rw [List.getElem?_eq_getElem hii] at hx; injection hx
          have HTK := Lib.hid (shareL_take S R l hii)
          rw [hxl] at HTK
          have hc1 := hcl (j + 1) (by omega)
          have hcs := cut_succ S R j
          obtain ⟨C0, hC0⟩ : ∃ C0, C0 = cutA S R j := ⟨_, rfl⟩
          obtain ⟨C1, hC1⟩ : ∃ C1, C1 = cutA S R (j + 1) := ⟨_, rfl⟩
          rw [← hC0, ← hC1] at hcs HTK
          rw [← hC1] at hc1
          rw [← hC0]
          have HC1 := Lib.hid hC1
          clear hC0 hC1 hx hxl
          have fq : Fit (⟨(C0 : Int), (C1 : Int), x⟩ : Pc) := ⟨by unfold I64; simp only; split at hcs <;> omega, by unfold I64; simp only; omega, hxi⟩
          have hwA : Below wx.heap.size wx (wx.drew.alloc (po ⟨(C0 : Int), (C1 : Int), x⟩)) := (below_drew0 wx).alloc (Nat.le_refl _) _
          have hownA : (wx.drew.alloc (po ⟨(C0 : Int), (C1 : Int), x⟩)).ownsRow (w.heap.size + 2) 58 3 (.slice Ai j ci) j (pvs ((shareL S R 0 0 l).take j)) := own_keep hown hwA
          have hbbA := hbb.keep hwA
          have hbqA := hbq.keep hwA
          have hBA := below_step hB hwA (Nat.le_refl _)
          have hrdA := (ps_one (w := wx.drew) fq (g := wx.heap.size) rfl).rd
          have hlow : ∀ q, (Value.slice Ai j ci).ownBlock = some q → w.heap.size + 2 ≤ q := own_from hown
          have hne1 : some (w.heap.size + 1) ≠ (Value.slice Ai j ci).ownBlock := fun e => by have := hlow _ e.symm; omega
          have hne0 : some w.heap.size ≠ (Value.slice Ai j ci).ownBlock := fun e => by have := hlow _ e.symm; omega
          have z3 : j + 1 ≤ maxLen := by unfold maxLen; omega
          have z4 : (j + 1) * 24 ≤ 140737488355328 := by omega
          have zA : w.heap.size + 2 ≤ (wx.drew.alloc (po ⟨(C0 : Int), (C1 : Int), x⟩)).heap.size := by have := hbb.lt; simp; omega
          obtain ⟨u0, u1, u2, f0, f1, f2⟩ := cells3 hbb
          obtain ⟨v0, v1, v2, -, -, -⟩ := cells3 hbbA
          have cxA := (hwA.cell (cell_lt cx)).trans cx
          have hwB : Below wx.heap.size wx (wx.alloc (po ⟨(C0 : Int), (C1 : Int), x⟩)) := (Below.refl _ _).alloc (Nat.le_refl _) _
          obtain ⟨t0', t1', t2', -, -, -⟩ := cells3 (hbb.keep hwB)
          have cxB := (hwB.cell (cell_lt cx)).trans cx
          clear hwA fq
          by_cases hr : j < R
          · rw [if_pos hr] at hcs
            have hrI : (j : Int) < (R : Int) := by omega
            have hw1 : IntKind.i64.wrap ((C0 : Int) + (S : Int)) = (C0 : Int) + (S : Int) := by rw [IntKind.wrap_i64]; omega
            have hw2 : IntKind.i64.wrap ((C0 : Int) + (S : Int) + 1) = (C1 : Int) := by rw [IntKind.wrap_i64]; omega
            clear hcs
            go_wp2_with fail
            go_region_law (
              first
                | (refine step_app _ rfl (.tmp 67) (.tmp 75) _ rfl (w.heap.size + 2) 58 i0 _ 3 24 Try.underlying23 hi0' hz0 hz1 Hz.out rfl (Nat.zero_lt_succ 2) (.slice Ai j ci) j _ rfl hownA (some ⟨wx.heap.size, 0, none⟩) 1 1 (pvs [⟨(C0 : Int), (C1 : Int), x⟩]) rfl (fun h => by cases h) hrdA (pvs_one _) z3 z4 zA ?_
                   intro v3 w3 hown3 hg3 hat3
                   obtain ⟨A3, c3, rfl, hc3, hcm3, hA3⟩ := own_form hown3
                   have hbb3 := hbbA.grown hg3 hne1
                   obtain ⟨s0, s1, s2, e0, e1, e2⟩ := cells3 hbb3))
            all_goals
              rw [← pvs_app, ← HTK.out] at hown3
              have hbb4 : Blk (w3.setCell ⟨w.heap.size + 1, 2, none⟩ (.slice A3 (j + 1) c3)) (w.heap.size + 1) 25 #[.int .i64 1, .int .i64 (N : Int), .slice A3 (j + 1) c3] := by simpa using hbb3.setCell 2 (.slice A3 (j + 1) c3)
              have hgs := grown_setCell w3 ⟨w.heap.size + 1, 2, none⟩ (.slice A3 (j + 1) c3)
              have hown4 : Po (w3.setCell ⟨w.heap.size + 1, 2, none⟩ (.slice A3 (j + 1) c3)) (w.heap.size + 2) (.slice A3 (j + 1) c3) (j + 1) ((shareL S R 0 0 l).take (j + 1)) := po_grown hown3 hgs (fun q hq e => by injection e with e; have := (hown3.lt q hq).1; simp only at e; omega)
              have hbq4 := (hbqA.grown hg3 hne0).grown hgs (fun e => by injection e with e; simp only at e; omega)
              have hB4 : Below w.heap.size w (w3.setCell ⟨w.heap.size + 1, 2, none⟩ (.slice A3 (j + 1) c3)) := (hBA.grown hg3 (Nat.le_trans (Nat.le_add_right _ 2) zA) (fun q hq => by have := hlow q hq; omega)).setCell (by simp only; omega) _
              clear hown3 hbb3 hgs hg3 hat3 s0 s1 s2 e0 e1 e2 hbbA hbqA hBA hownA hrdA v0 v1 v2 t0' t1' t2' cxA cxB cx u0 u1 u2 f0 f1 f2 hbb hown hbq hB
              generalize (w3.setCell ⟨w.heap.size + 1, 2, none⟩ (.slice A3 (j + 1) c3)) = wy at *
              go_wp2
              go_roundw
              case rel => exact ⟨j + 1, A3, c3, by omega, by go_num, by rw [HC1.out], hbb4, hown4, hbq4, hB4⟩
              case measure => simp [intOf]; omega
          · rw [if_neg hr] at hcs
            have hrI : ¬ (j : Int) < (R : Int) := by omega
            have hw1 : IntKind.i64.wrap ((C0 : Int) + (S : Int)) = (C1 : Int) := by rw [IntKind.wrap_i64]; omega
            clear hcs
            go_wp2_with fail
            go_region_law (
              first
                | (refine step_app _ rfl (.tmp 67) (.tmp 75) _ rfl (w.heap.size + 2) 58 i0 _ 3 24 Try.underlying23 hi0' hz0 hz1 Hz.out rfl (Nat.zero_lt_succ 2) (.slice Ai j ci) j _ rfl hownA (some ⟨wx.heap.size, 0, none⟩) 1 1 (pvs [⟨(C0 : Int), (C1 : Int), x⟩]) rfl (fun h => by cases h) hrdA (pvs_one _) z3 z4 zA ?_
                   intro v3 w3 hown3 hg3 hat3
                   obtain ⟨A3, c3, rfl, hc3, hcm3, hA3⟩ := own_form hown3
                   have hbb3 := hbbA.grown hg3 hne1
                   obtain ⟨s0, s1, s2, e0, e1, e2⟩ := cells3 hbb3))
            all_goals
              rw [← pvs_app, ← HTK.out] at hown3
              have hbb4 : Blk (w3.setCell ⟨w.heap.size + 1, 2, none⟩ (.slice A3 (j + 1) c3)) (w.heap.size + 1) 25 #[.int .i64 1, .int .i64 (N : Int), .slice A3 (j + 1) c3] := by simpa using hbb3.setCell 2 (.slice A3 (j + 1) c3)
              have hgs := grown_setCell w3 ⟨w.heap.size + 1, 2, none⟩ (.slice A3 (j + 1) c3)
              have hown4 : Po (w3.setCell ⟨w.heap.size + 1, 2, none⟩ (.slice A3 (j + 1) c3)) (w.heap.size + 2) (.slice A3 (j + 1) c3) (j + 1) ((shareL S R 0 0 l).take (j + 1)) := po_grown hown3 hgs (fun q hq e => by injection e with e; have := (hown3.lt q hq).1; simp only at e; omega)
              have hbq4 := (hbqA.grown hg3 hne0).grown hgs (fun e => by injection e with e; simp only at e; omega)
              have hB4 : Below w.heap.size w (w3.setCell ⟨w.heap.size + 1, 2, none⟩ (.slice A3 (j + 1) c3)) := (hBA.grown hg3 (Nat.le_trans (Nat.le_add_right _ 2) zA) (fun q hq => by have := hlow q hq; omega)).setCell (by simp only; omega) _
              clear hown3 hbb3 hgs hg3 hat3 s0 s1 s2 e0 e1 e2 hbbA hbqA hBA hownA hrdA v0 v1 v2 t0' t1' t2' cxA cxB cx u0 u1 u2 f0 f1 f2 hbb hown hbq hB
              generalize (w3.setCell ⟨w.heap.size + 1, 2, none⟩ (.slice A3 (j + 1) c3)) = wy at *
              go_wp2
              go_roundw
              case rel => exact ⟨j + 1, A3, c3, by omega, by go_num, by rw [HC1.out], hbb4, hown4, hbq4, hB4⟩
              case measure => simp [intOf]; omega
        · have hin : (k : Int) ≤ (j : Int) := by omega
          have hjk : j = k := by omega
          subst hjk
          rw [List.take_of_length_le (by rw [hsl.out, ← Hl.out]; omega), ← HT.out] at hown
          obtain ⟨Ai', ci', e, hci, hcm, hnil⟩ := own_form hown
          injection e with e1 e2 e3
          subst e1 e3
          unfold maxLen at hcm
          have hps := po_ps hown Hfit.out
          obtain ⟨u0, u1, u2, -, -, -⟩ := cells3 hbb
          obtain ⟨x0, x1, x2, f0, f1, f2⟩ := cells3 hbq
          have hmr : Mr wx (⟨1, (N : Int), shareL (N / j) (N % j) 0 0 l⟩ : Mp) Ai j ci := ⟨by unfold I64; simp, by unfold I64; simp only; omega, hps, hci, hcm, fun h => (hnil h).2⟩
          have hne9 : ∀ a, Ai = some a → a.block ≠ w.heap.size := fun a e => by have := own_blk hown a e; omega
          have hAns : RAns w (((wx.setCell ⟨w.heap.size, 0, none⟩ (.int .i64 1)).setCell ⟨w.heap.size, 1, none⟩ (.int .i64 (N : Int))).setCell ⟨w.heap.size, 2, none⟩ (.slice Ai j ci)) (.returned (.tuple #[.agg #[.int .i64 1, .int .i64 (N : Int), .slice Ai j ci], .int .i64 0])) (⟨1, (N : Int), shareL (N / j) (N % j) 0 0 l⟩, 0) := rans_set (q := w.heap.size) (r := (⟨1, (N : Int), shareL (N / j) (N % j) 0 0 l⟩, 0)) hmr hne9 (Nat.le_refl _) hB _ _ _
          clear hown hps hmr hlt
          go_wp2
          refine bodyPost_ret (results_r rfl rfl (blk_set3 hbq (.int .i64 1) (.int .i64 (N : Int)) (.slice Ai j ci))) rfl ?_
          rw [HR.out]
          exact hAns
end
end Sma
end Go.Proofs.Ytncapionioeieaa
