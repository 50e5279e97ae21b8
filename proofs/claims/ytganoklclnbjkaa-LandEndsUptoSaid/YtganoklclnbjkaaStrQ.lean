/- Layer 10: a stream's order: ordered, rising. -/
import Derived.Test.YtganoklclnbjkaaStrP
set_option linter.all false
namespace Go.Proofs.Ytganoklclnbjkaa
open Go.RowKit
namespace Str
open Blo (I64)
def ordA (last : Int) : Int → List Rec → Bool
  | _, [] => true
  | i, r :: l => ((r.k == 1) == (i == 0)) && (((r.k == 4) == (i == last)) && ordA last (i + 1) l)
def ordB (l : List Rec) : Bool := ordA ((l.length : Int) - 1) 0 l && decide (0 < l.length)
/-- Are ops of a volume of n blocks, each behind the one ahead? -/
def risA (n : Int) : Int → List Rec → Bool
  | _, [] => true
  | e, r :: l => (opOf r).right n && (decide (e ≤ (opOf r).off) && risA n ((opOf r).from_ + (opOf r).cnt) l)
section
variable (w : World)
set_option maxRecDepth 100000 in
set_option maxHeartbeats 4000000 in
theorem ordered_ (A : Option Addr) (n c : Nat) (l : List Rec) (h : Rcl w A n l) (hn : n ≤ 9223372036854775807) : Calls Try.prog 53 #[.slice A n c] w fun e w' => e = .returned (.bool (ordB l)) ∧ Below w.heap.size w w' := by
  have Hl := Lib.hid h.len
  have HB := Lib.hid (show ordB l = (ordA ((n : Int) - 1) 0 l && decide (0 < n)) by unfold ordB; rw [← Hl.out])
  go_enter Try.func53, Try.ntmps53
  go_wp2_with fail
  go_loopw [11] (fun iv wr => ∃ i : Nat, i ≤ n ∧ iv = .int .i64 (i : Int) ∧ Hid (ordA ((n : Int) - 1) (i : Int) (l.drop i) = ordA ((n : Int) - 1) 0 l) ∧ Below w.heap.size w wr) (fun iv _ => n - (intOf iv).toNat)
  case atStart => exact ⟨0, Nat.zero_le _, rfl, Lib.hid rfl, Below.refl _ _⟩
  case round =>
    obtain ⟨i, hi, rfl, HL, hb⟩ := hrel
    by_cases hlt : i < n
    · have hil : (i : Int) < (n : Int) := by omega
      have hi0 : (0 : Int) ≤ (i : Int) := by omega
      obtain ⟨b, o, X, m, cc, x, rfl, hx, hc, hd⟩ := (h.below hb).at_ hlt
      obtain ⟨c0, c1, c2, c3, c4, c5, c6, c7⟩ := hc.all
      have hL := HL.out
      rw [Blo.drop_of hx, ordA] at hL
      have hba : Below w.heap.size w (wr.alloc (.cells (ra x (.slice X m cc)) 29)) := hb.alloc hb.size _
      have hnew := Blk.new wr 29 (ra x (.slice X m cc)) rfl
      obtain ⟨k0, k1, k2, k3, k4, k5, k6, k7⟩ := k8 hnew
      clear h hb hd hc hx HL
      cases hA : (x.k == 1) with
      | false =>
        cases hB : ((i : Int) == 0) with
        | false =>
          cases hC : (x.k == 4) with
          | false =>
            cases hD : ((i : Int) == (n : Int) - 1) with
            | false =>
              have HL2 := Lib.hid (show ordA ((n : Int) - 1) ((i + 1 : Nat) : Int) (l.drop (i + 1)) = ordA ((n : Int) - 1) 0 l by rw [← hL, hA, hB, hC, hD]; simp)
              clear hL
              go_wp2
              go_roundw
              case rel => exact ⟨i + 1, by omega, by go_num, HL2, hba⟩
              case measure => simp [intOf]; omega
            | true =>
              have HF := Lib.hid (show ordB l = false by rw [HB.out, ← hL, hA, hB, hC, hD]; simp)
              clear hL
              go_wp2
              go_ret
              rw [HF.out]
              exact ⟨rfl, hba⟩
          | true =>
            cases hD : ((i : Int) == (n : Int) - 1) with
            | false =>
              have HF := Lib.hid (show ordB l = false by rw [HB.out, ← hL, hA, hB, hC, hD]; simp)
              clear hL
              go_wp2
              go_ret
              rw [HF.out]
              exact ⟨rfl, hba⟩
            | true =>
              have HL2 := Lib.hid (show ordA ((n : Int) - 1) ((i + 1 : Nat) : Int) (l.drop (i + 1)) = ordA ((n : Int) - 1) 0 l by rw [← hL, hA, hB, hC, hD]; simp)
              clear hL
              go_wp2
              go_roundw
              case rel => exact ⟨i + 1, by omega, by go_num, HL2, hba⟩
              case measure => simp [intOf]; omega
        | true =>
          have HF := Lib.hid (show ordB l = false by rw [HB.out, ← hL, hA, hB]; simp)
          clear hL
          go_wp2
          go_ret
          rw [HF.out]
          exact ⟨rfl, hba⟩
      | true =>
        cases hB : ((i : Int) == 0) with
        | false =>
          have HF := Lib.hid (show ordB l = false by rw [HB.out, ← hL, hA, hB]; simp)
          clear hL
          go_wp2
          go_ret
          rw [HF.out]
          exact ⟨rfl, hba⟩
        | true =>
          cases hC : (x.k == 4) with
          | false =>
            cases hD : ((i : Int) == (n : Int) - 1) with
            | false =>
              have HL2 := Lib.hid (show ordA ((n : Int) - 1) ((i + 1 : Nat) : Int) (l.drop (i + 1)) = ordA ((n : Int) - 1) 0 l by rw [← hL, hA, hB, hC, hD]; simp)
              clear hL
              go_wp2
              go_roundw
              case rel => exact ⟨i + 1, by omega, by go_num, HL2, hba⟩
              case measure => simp [intOf]; omega
            | true =>
              have HF := Lib.hid (show ordB l = false by rw [HB.out, ← hL, hA, hB, hC, hD]; simp)
              clear hL
              go_wp2
              go_ret
              rw [HF.out]
              exact ⟨rfl, hba⟩
          | true =>
            cases hD : ((i : Int) == (n : Int) - 1) with
            | false =>
              have HF := Lib.hid (show ordB l = false by rw [HB.out, ← hL, hA, hB, hC, hD]; simp)
              clear hL
              go_wp2
              go_ret
              rw [HF.out]
              exact ⟨rfl, hba⟩
            | true =>
              have HL2 := Lib.hid (show ordA ((n : Int) - 1) ((i + 1 : Nat) : Int) (l.drop (i + 1)) = ordA ((n : Int) - 1) 0 l by rw [← hL, hA, hB, hC, hD]; simp)
              clear hL
              go_wp2
              go_roundw
              case rel => exact ⟨i + 1, by omega, by go_num, HL2, hba⟩
              case measure => simp [intOf]; omega
    · have hin : (n : Int) ≤ (i : Int) := by omega
      have HT := Lib.hid (show ordB l = decide (0 < n) by rw [HB.out, ← HL.out, List.drop_of_length_le (by have := Hl.out; omega)]; simp [ordA])
      by_cases h0 : 0 < (n : Int)
      · have HQ := Lib.hid (show ordB l = true by rw [HT.out]; exact decide_eq_true (by omega))
        go_wp2
        go_ret
        rw [HQ.out]
        exact ⟨by simp; omega, hb⟩
      · have HQ := Lib.hid (show ordB l = false by rw [HT.out]; exact decide_eq_false (by omega))
        go_wp2
        go_ret
        rw [HQ.out]
        exact ⟨by simp; omega, hb⟩
theorem right_rng {o : BOp} {n : Int} (h : o.right n = true) : 0 ≤ o.from_ ∧ 0 ≤ o.cnt ∧ o.from_ + o.cnt ≤ 1024 ∧ o.from_ + o.cnt ≤ n := by
  rw [Blo.right_is] at h
  simp only [Bool.and_eq_true] at h
  obtain ⟨h1, h2, _⟩ := h
  simp only [Blo.withinB, Bool.and_eq_true, decide_eq_true_eq] at h2
  simp only [Go.Proofs.Ytganoklclnbjkaa.manyB, Bool.and_eq_true, decide_eq_true_eq] at h1
  omega
set_option maxRecDepth 100000 in
set_option maxHeartbeats 4000000 in
theorem rising_ (N : Int) (A : Option Addr) (n c : Nat) (l : List Rec) (hN : I64 N) (h : Rcl w A n l) (hn : n ≤ 9223372036854775807) : Calls Try.prog 54 #[.int .i64 N, .slice A n c] w fun e w' => e = .returned (.bool (risA N 0 l)) ∧ Below w.heap.size w w' := by
  have Hl := Lib.hid h.len
  go_enter Try.func54, Try.ntmps54
  go_wp2_with fail
  go_loopw [5, 13] (fun ev iv wr => ∃ (i : Nat) (en : Int), i ≤ n ∧ iv = .int .i64 (i : Int) ∧ ev = .int .i64 en ∧ (0 ≤ en ∧ en ≤ 1024) ∧ Hid (risA N en (l.drop i) = risA N 0 l) ∧ Below w.heap.size w wr) (fun _ iv _ => n - (intOf iv).toNat)
  case atStart => exact ⟨0, 0, Nat.zero_le _, rfl, rfl, ⟨by omega, by omega⟩, Lib.hid rfl, Below.refl _ _⟩
  case round =>
    obtain ⟨i, en, hi, rfl, rfl, ⟨hen0, hen1⟩, HL, hb⟩ := hrel
    by_cases hlt : i < n
    · have hil : (i : Int) < (n : Int) := by omega
      have hi0 : (0 : Int) ≤ (i : Int) := by omega
      obtain ⟨b, o, X, m, cc, x, rfl, hx, hc, hd⟩ := (h.below hb).at_ hlt
      obtain ⟨c0, c1, c2, c3, c4, c5, c6, c7⟩ := hc.all
      have hL := HL.out
      rw [Blo.drop_of hx, risA] at hL
      have hba : Below wr.heap.size wr (wr.alloc (.cells (ra x (.slice X m cc)) 29)) := (Below.refl _ _).alloc (Nat.le_refl _) _
      have hd1 := hd.below hba
      clear h hd hc hx HL
      go_wp2_with fail
      refine (op_ _ x X m cc).mono ?_
      rintro e w2 ⟨rfl, hb2⟩
      have hB2 : Below w.heap.size w w2 := hb.trans ((below_step hba hb2 (Nat.le_refl _)).mono hb.size)
      have ho2 := opOf_dat (hd1.below hb2)
      obtain ⟨oo, hoo⟩ : ∃ oo, opOf x = oo := ⟨_, rfl⟩
      rw [hoo] at ho2 hL ⊢
      clear hoo c0 c1 c2 c3 c4 c5 c6 c7 hba hd1 hb2
      obtain ⟨w3, hw3⟩ : ∃ w3, w2.alloc (.cells (oa oo (.slice X m cc)) 67) = w3 := ⟨_, rfl⟩
      have hb3 : Below w2.heap.size w2 w3 := by rw [← hw3]; exact (Below.refl _ _).alloc (Nat.le_refl _) _
      have hn3 : Blk w3 w2.heap.size 67 (oa oo (.slice X m cc)) := by rw [← hw3]; exact Blk.new w2 _ _ rfl
      have ho3 := ho2.below hb3
      have hB3 : Below w.heap.size w w3 := hB2.trans (hb3.mono hB2.size)
      have n0 := hn3.cell (j := 0) (u := .int .i64 oo.kind) rfl
      have n1 := hn3.cell (j := 1) (u := .int .i64 oo.off) rfl
      have n2 := hn3.cell (j := 2) (u := .int .i64 oo.len) rfl
      have n3 := hn3.cell (j := 3) (u := .slice X m cc) rfl
      clear hb3 hB2 ho2
      go_wp2_with fail
      refine (Blo.right1_ _ N oo X m cc hN ho3).mono ?_
      cases hr : oo.right N with
      | false =>
        rintro e w4 ⟨rfl, hb4⟩
        have HF := Lib.hid (show risA N 0 l = false by rw [← hL, hr]; rfl)
        have hB4 : Below w.heap.size w w4 := hB3.trans (hb4.mono hB3.size)
        clear hL hr
        go_wp2
        go_ret
        rw [HF.out]
        exact ⟨rfl, hB4⟩
      | true =>
        rintro e w4 ⟨rfl, hb4⟩
        have hB4 : Below w.heap.size w w4 := hB3.trans (hb4.mono hB3.size)
        obtain ⟨r1, r2, r3, r4⟩ := right_rng hr
        have ho4 := ho3.below hb4
        have hn4 := hn3.keep hb4
        clear n0 n1 n2 n3
        have n0 := hn4.cell (j := 0) (u := .int .i64 oo.kind) rfl
        have n1 := hn4.cell (j := 1) (u := .int .i64 oo.off) rfl
        have n2 := hn4.cell (j := 2) (u := .int .i64 oo.len) rfl
        have n3 := hn4.cell (j := 3) (u := .slice X m cc) rfl
        by_cases hoff : oo.off < en
        · have HF := Lib.hid (show risA N 0 l = false by rw [← hL, hr, decide_eq_false (by omega)]; rfl)
          clear hL hr
          go_wp2
          go_ret
          rw [HF.out]
          exact ⟨rfl, hB4⟩
        · have HL2 := Lib.hid (show risA N (oo.from_ + oo.cnt) (l.drop (i + 1)) = risA N 0 l by rw [← hL, hr, decide_eq_true (by omega)]; rfl)
          clear hL hr
          go_wp2_with fail
          refine (Blo.range_ _ oo X m cc ho4).mono ?_
          obtain ⟨fr, hfr⟩ : ∃ z, oo.from_ = z := ⟨_, rfl⟩
          obtain ⟨ct, hct⟩ : ∃ z, oo.cnt = z := ⟨_, rfl⟩
          rw [hfr, hct] at HL2 r3 r4 ⊢
          rw [hfr] at r1
          rw [hct] at r2
          clear hfr hct
          rintro e w5 ⟨rfl, hb5⟩
          have hB5 : Below w.heap.size w w5 := hB4.trans (hb5.mono hB4.size)
          go_wp2
          go_roundw
          case rel => exact ⟨i + 1, fr + ct, by omega, by go_num, by go_num, ⟨by omega, by omega⟩, HL2, hB5⟩
          case measure => simp [intOf]; omega
    · have hin : (n : Int) ≤ (i : Int) := by omega
      have HT := Lib.hid (show risA N 0 l = true by rw [← HL.out, List.drop_of_length_le (by have := Hl.out; omega)]; rfl)
      go_wp2
      go_ret
      rw [HT.out]
      exact ⟨rfl, hb⟩
end
end Str
end Go.Proofs.Ytganoklclnbjkaa
