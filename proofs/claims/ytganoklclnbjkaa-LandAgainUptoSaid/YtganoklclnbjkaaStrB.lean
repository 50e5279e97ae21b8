/- Layer 10: May, may. -/
import Derived.Test.YtganoklclnbjkaaStrA
set_option linter.all false
namespace Go.Proofs.Ytganoklclnbjkaa
open Go.RowKit
namespace Str
open Blo (I64)
section
variable (w : World)
set_option maxRecDepth 100000 in
set_option maxHeartbeats 1000000 in
theorem may1_ (r : Rec) (X : Option Addr) (m c : Nat) (h : Rdt w r X m c) : Calls Try.prog 24 #[.agg (ra r (.slice X m c))] w fun e w' => e = .returned (.bool (mayB r)) ∧ Below w.heap.size w w' := by
  have Hm := Lib.hid h.len
  have hml : m ≤ 9223372036854775807 := by have := h.le; have := h.cap; omega
  have HR := Lib.hid (may_is r)
  obtain ⟨fk, f1, f2, f3, f4, f5, f6⟩ := h.fit
  have hmi : I64 (m : Int) := by unfold I64; omega
  clear h
  have hac := Blk.new w 29 (ra r (.slice X m c)) rfl
  obtain ⟨w1, hw1⟩ : ∃ w1, w.alloc (.cells (ra r (.slice X m c)) 29) = w1 := ⟨_, rfl⟩
  have hs1 : w1.heap.size = w.heap.size + 1 := by rw [← hw1]; simp
  have hb1 : Below w.heap.size w w1 := by rw [← hw1]; exact (Below.refl _ _).alloc (Nat.le_refl _) _
  rw [hw1] at hac
  obtain ⟨d0, d1, d2, d3, d4, d5, d6, d7⟩ := (rc_blk hac).all
  simp only [Nat.zero_add] at d0 d1 d2 d3 d4 d5 d6 d7
  go_enter Try.func24, Try.ntmps24
  go_wp2_with fail
  have hI : Is (w1.alloc (.cells #[.int .i64 r.sh, .int .i64 r.sn, .int .i64 r.ba, .int .i64 r.ma, .int .i64 r.off, .int .i64 r.len] 3)) (some ⟨w.heap.size + 1, 0, none⟩) 6 [r.sh, r.sn, r.ba, r.ma, r.off, r.len] := Is.new w1 _ (by simp only [List.mem_cons, List.not_mem_nil, or_false, forall_eq_or_imp, forall_eq]; exact ⟨f1, f2, f3, f4, f5, f6⟩) 3 hs1.symm rfl rfl
  refine (fit_ _ _ 6 6 [r.sh, r.sn, r.ba, r.ma, r.off, r.len] hI (by omega)).mono ?_
  clear hI
  obtain ⟨w2, hw2⟩ : ∃ w2, w1.alloc (.cells #[.int .i64 r.sh, .int .i64 r.sn, .int .i64 r.ba, .int .i64 r.ma, .int .i64 r.off, .int .i64 r.len] 3) = w2 := ⟨_, rfl⟩
  have hs2 : w2.heap.size = w.heap.size + 2 := by rw [← hw2]; simp [hs1]
  have hb2 : Below w.heap.size w w2 := by rw [← hw2]; exact hb1.alloc hb1.size _
  have hac2 : Blk w2 w.heap.size 29 (ra r (.slice X m c)) := by rw [← hw2]; exact hac.alloc _
  rw [hw2]
  clear hw2 hac d0 d1 d2 d3 d4 d5 d6 d7 hw1
  obtain ⟨d0, d1, d2, d3, d4, d5, d6, d7⟩ := (rc_blk hac2).all
  simp only [Nat.zero_add] at d0 d1 d2 d3 d4 d5 d6 d7
  cases hf : [r.sh, r.sn, r.ba, r.ma, r.off, r.len].all farB with
  | false =>
    have HB := Lib.hid (show mayB r = false by rw [HR.out, hf]; rfl)
    clear hf
    rintro e w3 ⟨rfl, rfl⟩
    go_wp2
    go_ret
    rw [HB.out]
    exact ⟨rfl, hb2⟩
  | true =>
    have HB := Lib.hid (show mayB r = manyB r by rw [HR.out, hf]; rfl)
    clear hf HR
    rintro e w3 ⟨rfl, rfl⟩
    by_cases h1 : r.k = 1
    · have HC := Lib.hid (show manyB r = [r.off, (m : Int)].all zeroB by unfold manyB; rw [if_pos h1, Hm.out])
      go_wp2_with fail
      have hI : Is (w2.alloc (.cells #[.int .i64 r.off, .int .i64 (m : Int)] 3)) (some ⟨w.heap.size + 2, 0, none⟩) 2 [r.off, (m : Int)] := Is.new w2 _ (by simp only [List.mem_cons, List.not_mem_nil, or_false, forall_eq_or_imp, forall_eq]; exact ⟨f5, hmi⟩) 3 hs2.symm rfl rfl
      refine (none_ _ _ 2 2 [r.off, (m : Int)] hI (by omega)).mono ?_
      clear hI
      obtain ⟨R, hR⟩ : ∃ R, [r.off, (m : Int)].all zeroB = R := ⟨_, rfl⟩
      rw [hR]
      have HQ := Lib.hid hR
      clear hR
      rintro e w3 ⟨rfl, rfl⟩
      go_wp2
      go_ret
      rw [HB.out, HC.out, HQ.out]
      exact ⟨rfl, hb2.alloc hb2.size _⟩
    · by_cases h2 : r.k = 2
      · have HC := Lib.hid (show manyB r = ([r.sh, r.sn, r.ba, r.ma, r.len].all zeroB && (decide (1 ≤ m) && decide (m ≤ 64))) by unfold manyB; rw [if_neg h1, if_pos h2, Hm.out])
        go_wp2_with fail
        have hI : Is (w2.alloc (.cells #[.int .i64 r.sh, .int .i64 r.sn, .int .i64 r.ba, .int .i64 r.ma, .int .i64 r.len] 3)) (some ⟨w.heap.size + 2, 0, none⟩) 5 [r.sh, r.sn, r.ba, r.ma, r.len] := Is.new w2 _ (by simp only [List.mem_cons, List.not_mem_nil, or_false, forall_eq_or_imp, forall_eq]; exact ⟨f1, f2, f3, f4, f6⟩) 3 hs2.symm rfl rfl
        refine (none_ _ _ 5 5 [r.sh, r.sn, r.ba, r.ma, r.len] hI (by omega)).mono ?_
        clear hI
        cases hR : [r.sh, r.sn, r.ba, r.ma, r.len].all zeroB with
        | false =>
          have HQ := Lib.hid hR
          clear hR
          rintro e w3 ⟨rfl, rfl⟩
          go_wp2
          go_ret
          rw [HB.out, HC.out, HQ.out]
          exact ⟨rfl, hb2.alloc hb2.size _⟩
        | true =>
          have HQ := Lib.hid hR
          clear hR
          rintro e w3 ⟨rfl, rfl⟩
          by_cases g1 : (1 : Int) ≤ (m : Int)
          · by_cases g2 : (m : Int) ≤ 64
            · have HQ2 := Lib.hid (show (decide (1 ≤ m) && decide (m ≤ 64)) = true by rw [Bool.and_eq_true, decide_eq_true_eq, decide_eq_true_eq]; omega)
              go_wp2
              go_ret
              rw [HB.out, HC.out, HQ.out, HQ2.out]
              exact ⟨by simp [g1, g2], hb2.alloc hb2.size _⟩
            · have HQ2 := Lib.hid (show (decide (1 ≤ m) && decide (m ≤ 64)) = false by rw [Bool.and_eq_false_iff, decide_eq_false_iff_not, decide_eq_false_iff_not]; omega)
              go_wp2
              go_ret
              rw [HB.out, HC.out, HQ.out, HQ2.out]
              exact ⟨by simp [g1, g2], hb2.alloc hb2.size _⟩
          · have HQ2 := Lib.hid (show (decide (1 ≤ m) && decide (m ≤ 64)) = false by rw [Bool.and_eq_false_iff, decide_eq_false_iff_not, decide_eq_false_iff_not]; omega)
            go_wp2
            go_ret
            rw [HB.out, HC.out, HQ.out, HQ2.out]
            exact ⟨by simp [g1], hb2.alloc hb2.size _⟩
      · by_cases h3 : r.k = 3
        · have HC := Lib.hid (show manyB r = ([r.sh, r.sn, r.ba, r.ma, (m : Int)].all zeroB && decide (1 ≤ r.len)) by unfold manyB; rw [if_neg h1, if_neg h2, if_pos h3, Hm.out])
          go_wp2_with fail
          have hI : Is (w2.alloc (.cells #[.int .i64 r.sh, .int .i64 r.sn, .int .i64 r.ba, .int .i64 r.ma, .int .i64 (m : Int)] 3)) (some ⟨w.heap.size + 2, 0, none⟩) 5 [r.sh, r.sn, r.ba, r.ma, (m : Int)] := Is.new w2 _ (by simp only [List.mem_cons, List.not_mem_nil, or_false, forall_eq_or_imp, forall_eq]; exact ⟨f1, f2, f3, f4, hmi⟩) 3 hs2.symm rfl rfl
          refine (none_ _ _ 5 5 [r.sh, r.sn, r.ba, r.ma, (m : Int)] hI (by omega)).mono ?_
          clear hI
          have hac3 : Blk (w2.alloc (.cells #[.int .i64 r.sh, .int .i64 r.sn, .int .i64 r.ba, .int .i64 r.ma, .int .i64 (m : Int)] 3)) w.heap.size 29 (ra r (.slice X m c)) := hac2.alloc _
          have e6 := (rc_blk hac3).c6
          simp only [Nat.zero_add] at e6
          cases hR : [r.sh, r.sn, r.ba, r.ma, (m : Int)].all zeroB with
          | false =>
            have HQ := Lib.hid hR
            clear hR
            rintro e w3 ⟨rfl, rfl⟩
            go_wp2
            go_ret
            rw [HB.out, HC.out, HQ.out]
            exact ⟨rfl, hb2.alloc hb2.size _⟩
          | true =>
            have HQ := Lib.hid hR
            clear hR
            rintro e w3 ⟨rfl, rfl⟩
            by_cases g1 : 1 ≤ r.len <;>
            (go_wp2
             go_ret
             rw [HB.out, HC.out, HQ.out]
             exact ⟨by simp [g1], hb2.alloc hb2.size _⟩)
        · by_cases h4 : r.k = 4
          · have HC := Lib.hid (show manyB r = [r.sh, r.sn, r.ba, r.ma, r.off, (m : Int)].all zeroB by unfold manyB; rw [if_neg h1, if_neg h2, if_neg h3, if_pos h4, Hm.out])
            go_wp2_with fail
            have hI : Is (w2.alloc (.cells #[.int .i64 r.sh, .int .i64 r.sn, .int .i64 r.ba, .int .i64 r.ma, .int .i64 r.off, .int .i64 (m : Int)] 3)) (some ⟨w.heap.size + 2, 0, none⟩) 6 [r.sh, r.sn, r.ba, r.ma, r.off, (m : Int)] := Is.new w2 _ (by simp only [List.mem_cons, List.not_mem_nil, or_false, forall_eq_or_imp, forall_eq]; exact ⟨f1, f2, f3, f4, f5, hmi⟩) 3 hs2.symm rfl rfl
            refine (none_ _ _ 6 6 [r.sh, r.sn, r.ba, r.ma, r.off, (m : Int)] hI (by omega)).mono ?_
            clear hI
            obtain ⟨R, hR⟩ : ∃ R, [r.sh, r.sn, r.ba, r.ma, r.off, (m : Int)].all zeroB = R := ⟨_, rfl⟩
            rw [hR]
            have HQ := Lib.hid hR
            clear hR
            rintro e w3 ⟨rfl, rfl⟩
            go_wp2
            go_ret
            rw [HB.out, HC.out, HQ.out]
            exact ⟨rfl, hb2.alloc hb2.size _⟩
          · have HC := Lib.hid (show manyB r = false by unfold manyB; rw [if_neg h1, if_neg h2, if_neg h3, if_neg h4])
            go_wp2
            go_ret
            rw [HB.out, HC.out]
            exact ⟨rfl, hb2⟩
set_option maxRecDepth 100000 in
set_option maxHeartbeats 1000000 in
theorem may_ (A : Option Addr) (n c : Nat) (l : List Rec) (h : Rcl w A n l) (hn : n ≤ 9223372036854775807) : Calls Try.prog 52 #[.slice A n c] w fun e w' => e = .returned (.bool (l.all mayB)) ∧ Below w.heap.size w w' := by
  have Hl := Lib.hid h.len
  go_enter Try.func52, Try.ntmps52
  go_wp2_with fail
  go_loopw [7] (fun iv wr => ∃ i : Nat, i ≤ n ∧ iv = .int .i64 (i : Int) ∧ (l.drop i).all mayB = l.all mayB ∧ Below w.heap.size w wr) (fun iv _ => n - (intOf iv).toNat)
  case atStart => exact ⟨0, Nat.zero_le _, rfl, rfl, Below.refl _ _⟩
  case round =>
    obtain ⟨i, hi, rfl, hL, hb⟩ := hrel
    by_cases hlt : i < n
    · have hil : (i : Int) < (n : Int) := by omega
      have hi0 : (0 : Int) ≤ (i : Int) := by omega
      obtain ⟨b, o, X, m, cc, x, rfl, hx, hc, hd⟩ := (h.below hb).at_ hlt
      obtain ⟨c0, c1, c2, c3, c4, c5, c6, c7⟩ := hc.all
      rw [all_at hx] at hL
      have hba : Below w.heap.size w (wr.alloc (.cells (ra x (.slice X m cc)) 29)) := hb.alloc hb.size _
      have hd1 := hd.below (w' := wr.alloc (.cells (ra x (.slice X m cc)) 29)) ((Below.refl _ _).alloc (Nat.le_refl _) _)
      clear h hb hd hc
      go_wp2_with fail
      refine (may1_ _ x X m cc hd1).mono ?_
      cases hm : mayB x with
      | false =>
        have HB := Lib.hid (show l.all mayB = false by rw [← hL, hm]; rfl)
        clear hL
        rintro e w' ⟨rfl, hb'⟩
        go_wp2
        go_ret
        rw [HB.out]
        exact ⟨rfl, below_step hba hb' (by omega)⟩
      | true =>
        have HL := Lib.hid (show (l.drop (i + 1)).all mayB = l.all mayB by rw [← hL, hm]; rfl)
        clear hL
        rintro e w' ⟨rfl, hb'⟩
        go_wp2
        go_roundw
        case rel => exact ⟨i + 1, by omega, by go_num, HL.out, below_step hba hb' (by omega)⟩
        case measure => simp [intOf]; omega
    · have hin : (n : Int) ≤ (i : Int) := by omega
      have HB := Lib.hid (show l.all mayB = true by rw [← hL, List.drop_of_length_le (by have := Hl.out; omega)]; rfl)
      clear hL
      go_wp2
      go_ret
      rw [HB.out]
      exact ⟨rfl, hb⟩
end
end Str
end Go.Proofs.Ytganoklclnbjkaa
