/- Layer 15: the document's Same and Right. -/
import Derived.Test.YtlmaelbalmjlbaaNetD
import Derived.Test.YtlmaelbalmjlbaaSame
set_option linter.all false
namespace Go.Proofs.Ytlmaelbalmjlbaa
open Go.RowKit
namespace Net
section
variable (w : World)
set_option maxRecDepth 100000 in
set_option maxHeartbeats 4000000 in
theorem rsame_ (a b : Ms) (X Y : Option Addr) (n c m d : Nat) (ha : Mdt w a X n c) (hb : Mdt w b Y m d) :
    Calls Try.prog 34 #[.agg (ma a (.slice X n c)), .agg (ma b (.slice Y m d))] w fun e w' => e = .returned (.bool (decide (a = b))) ∧ Below w.heap.size w w' := by
  have HR := Lib.hid (same_is a b)
  have hA := Blk.new w 36 (ma a (.slice X n c)) rfl
  obtain ⟨w1, hw1⟩ : ∃ w1, w.alloc (.cells (ma a (.slice X n c)) 36) = w1 := ⟨_, rfl⟩
  have hs1 : w1.heap.size = w.heap.size + 1 := by rw [← hw1]; simp
  have hb1 : Below w.heap.size w w1 := by rw [← hw1]; exact (Below.refl _ _).alloc (Nat.le_refl _) _
  rw [hw1] at hA
  have hB := Blk.new w1 36 (ma b (.slice Y m d)) rfl
  obtain ⟨w2, hw2⟩ : ∃ w2, w1.alloc (.cells (ma b (.slice Y m d)) 36) = w2 := ⟨_, rfl⟩
  have hs2 : w2.heap.size = w.heap.size + 2 := by rw [← hw2]; simp [hs1]
  have hb2 : Below w1.heap.size w1 w2 := by rw [← hw2]; exact (Below.refl _ _).alloc (Nat.le_refl _) _
  rw [hw2, hs1] at hB
  have hA2 := hA.keep hb2
  have hB2 := below_step hb1 hb2 (by omega)
  have ha2 := ha.below hB2
  have hb2' := hb.below hB2
  obtain ⟨a0, a1, a2, a3, a4, a5, a6⟩ := ma_blk hA2
  obtain ⟨b0, b1, b2, b3, b4, b5, b6⟩ := ma_blk hB
  clear hA hb1 hb2 hA2 hB ha hb
  cases h0 : (a.fr == b.fr) with
  | false =>
    have HB := Lib.hid (show decide (a = b) = false by rw [HR.out, h0]; simp)
    have k0 : ¬ a.fr = b.fr := by simpa using h0
    go_enter Try.func34, Try.ntmps34
    go_wp2
    go_ret
    rw [HB.out]
    exact ⟨rfl, hB2⟩
  | true =>
    have k0 : decide (a.fr = b.fr) = true := by simpa using h0
    cases h1 : (a.to == b.to) with
    | false =>
      have HB := Lib.hid (show decide (a = b) = false by rw [HR.out, h0, h1]; simp)
      have k1 : ¬ a.to = b.to := by simpa using h1
      go_enter Try.func34, Try.ntmps34
      go_wp2
      go_ret
      rw [HB.out]
      exact ⟨rfl, hB2⟩
    | true =>
      have k1 : decide (a.to = b.to) = true := by simpa using h1
      cases h2 : (a.k == b.k) with
      | false =>
        have HB := Lib.hid (show decide (a = b) = false by rw [HR.out, h0, h1, h2]; simp)
        have k2 : ¬ a.k = b.k := by simpa using h2
        go_enter Try.func34, Try.ntmps34
        go_wp2
        go_ret
        rw [HB.out]
        exact ⟨rfl, hB2⟩
      | true =>
        have k2 : decide (a.k = b.k) = true := by simpa using h2
        cases h3 : (a.ep == b.ep) with
        | false =>
          have HB := Lib.hid (show decide (a = b) = false by rw [HR.out, h0, h1, h2, h3]; simp)
          have k3 : ¬ a.ep = b.ep := by simpa using h3
          go_enter Try.func34, Try.ntmps34
          go_wp2
          go_ret
          rw [HB.out]
          exact ⟨rfl, hB2⟩
        | true =>
          have k3 : decide (a.ep = b.ep) = true := by simpa using h3
          cases h4 : (a.sq == b.sq) with
          | false =>
            have HB := Lib.hid (show decide (a = b) = false by rw [HR.out, h0, h1, h2, h3, h4]; simp)
            have k4 : ¬ a.sq = b.sq := by simpa using h4
            go_enter Try.func34, Try.ntmps34
            go_wp2
            go_ret
            rw [HB.out]
            exact ⟨rfl, hB2⟩
          | true =>
            have k4 : decide (a.sq = b.sq) = true := by simpa using h4
            cases h5 : (a.ac == b.ac) with
            | false =>
              have HB := Lib.hid (show decide (a = b) = false by rw [HR.out, h0, h1, h2, h3, h4, h5]; simp)
              have k5 : ¬ a.ac = b.ac := by simpa using h5
              go_enter Try.func34, Try.ntmps34
              go_wp2
              go_ret
              rw [HB.out]
              exact ⟨rfl, hB2⟩
            | true =>
              have k5 : decide (a.ac = b.ac) = true := by simpa using h5
              have HB := Lib.hid (show decide (a = b) = (a.d == b.d) by rw [HR.out, h0, h1, h2, h3, h4, h5]; simp)
              go_enter Try.func34, Try.ntmps34
              go_wp2_with fail
              refine (same_ X Y n c m d a.d b.d _ ha2.bs hb2'.bs (fun h => (ha2.nil h).1) (fun h => (hb2'.nil h).1)).mono ?_
              obtain ⟨R, hR⟩ : ∃ R, (a.d == b.d) = R := ⟨_, rfl⟩
              rw [hR]
              have HQ := Lib.hid hR
              clear hR
              rintro e w3 ⟨rfl, rfl⟩
              go_wp2
              go_ret
              rw [HB.out, HQ.out]
              exact ⟨rfl, hB2⟩
theorem right_is (m : Ms) : decide (MayM m) = ([m.k, m.ep, m.sq, m.ac].all (okB 2147483648) && (decide (0 ≤ m.fr) && decide (m.fr < 16) && decide (0 ≤ m.to) && decide (m.to < 16) && decide (m.d.length ≤ 1200))) := by
  have h : ∀ a : Bool, ∀ p : Prop, [Decidable p] → (p ↔ a = true) → decide p = a := by
    intro a p _ hp
    cases a with
    | true => exact decide_eq_true (hp.2 rfl)
    | false => exact decide_eq_false (fun h => by cases hp.1 h)
  refine h _ _ ?_
  simp only [List.all_cons, List.all_nil, okB, Bool.and_true, Bool.and_eq_true, decide_eq_true_eq, MayM, Str.far]
  omega
set_option maxRecDepth 100000 in
set_option maxHeartbeats 4000000 in
theorem rright_ (m : Ms) (X : Option Addr) (n c : Nat) (h : Mdt w m X n c) : Calls Try.prog 52 #[.agg (ma m (.slice X n c))] w fun e w' => e = .returned (.bool (decide (MayM m))) ∧ Below w.heap.size w w' := by
  have Hm := Lib.hid h.len
  have hml : n ≤ 9223372036854775807 := by have := h.le; have := h.cap; omega
  have HR := Lib.hid (right_is m)
  obtain ⟨f0, f1, f2, f3, f4, f5⟩ := h.fit
  clear h
  have hac := Blk.new w 36 (ma m (.slice X n c)) rfl
  obtain ⟨w1, hw1⟩ : ∃ w1, w.alloc (.cells (ma m (.slice X n c)) 36) = w1 := ⟨_, rfl⟩
  have hs1 : w1.heap.size = w.heap.size + 1 := by rw [← hw1]; simp
  have hb1 : Below w.heap.size w w1 := by rw [← hw1]; exact (Below.refl _ _).alloc (Nat.le_refl _) _
  rw [hw1] at hac
  obtain ⟨d0, d1, d2, d3, d4, d5, d6⟩ := ma_blk hac
  obtain ⟨l, hl⟩ : ∃ l, [m.k, m.ep, m.sq, m.ac] = l := ⟨_, rfl⟩
  have hI : Is (w1.alloc (.cells #[.int .i64 m.k, .int .i64 m.ep, .int .i64 m.sq, .int .i64 m.ac] 3)) (some ⟨w.heap.size + 1, 0, none⟩) 4 l := by
    rw [← hl]; exact Is.new w1 _ (by simp only [List.mem_cons, List.not_mem_nil, or_false, forall_eq_or_imp, forall_eq]; exact ⟨f2, f3, f4, f5⟩) 3 hs1.symm rfl rfl
  obtain ⟨w2, hw2⟩ : ∃ w2, w1.alloc (.cells #[.int .i64 m.k, .int .i64 m.ep, .int .i64 m.sq, .int .i64 m.ac] 3) = w2 := ⟨_, rfl⟩
  have hb2 : Below w.heap.size w w2 := by rw [← hw2]; exact hb1.alloc hb1.size _
  have hac2 : Blk w2 w.heap.size 36 (ma m (.slice X n c)) := by rw [← hw2]; exact hac.alloc _
  rw [hw2] at hI
  rw [hl] at HR
  have Hl := Lib.hid hI.len
  go_enter Try.func52, Try.ntmps52
  go_wp2_with fail
  clear hl hac d0 d1 d2 d3 d4 d5 d6 hw1 hw2
  obtain ⟨d0, d1, d2, d3, d4, d5, d6⟩ := ma_blk hac2
  go_loopw [4] (fun iv wr => ∃ i : Nat, i ≤ 4 ∧ iv = .int .i64 (i : Int) ∧ (l.drop i).all (okB 2147483648) = l.all (okB 2147483648) ∧ wr = w2) (fun iv _ => 4 - (intOf iv).toNat)
  case atStart => exact ⟨0, Nat.zero_le _, rfl, rfl, rfl⟩
  case round =>
    obtain ⟨i, hi, rfl, hL, rfl⟩ := hrel
    by_cases hlt : i < 4
    · have hil : (i : Int) < 4 := by omega
      have hi0 : (0 : Int) ≤ (i : Int) := by omega
      obtain ⟨b, o, x, e, hx, hxi, cx⟩ := hI.get hlt
      injection e with e
      injection e with e1 e2
      subst e1 e2
      rw [Nat.zero_add] at cx
      rw [all_at hx] at hL
      clear hx hI
      by_cases h0 : x < 0
      · have HB := Lib.hid (show decide (MayM m) = false by rw [HR.out, ← hL, show okB 2147483648 x = false by simp [okB]; omega]; rfl)
        clear hL
        go_wp2
        go_ret
        rw [HB.out]
        exact ⟨rfl, hb2⟩
      · by_cases h1 : 2147483648 < x
        · have HB := Lib.hid (show decide (MayM m) = false by rw [HR.out, ← hL, show okB 2147483648 x = false by simp [okB]; omega]; rfl)
          clear hL
          go_wp2
          go_ret
          rw [HB.out]
          exact ⟨rfl, hb2⟩
        · have HL := Lib.hid (show (l.drop (i + 1)).all (okB 2147483648) = l.all (okB 2147483648) by rw [← hL, show okB 2147483648 x = true by simp [okB]; omega]; rfl)
          clear hL
          go_wp2
          go_roundw
          case rel => exact ⟨i + 1, by omega, by go_num, HL.out, trivial⟩
          case measure => simp [intOf]; omega
    · have hi4 : i = 4 := by omega
      subst hi4
      have HB := Lib.hid (show decide (MayM m) = (decide (0 ≤ m.fr) && decide (m.fr < 16) && decide (0 ≤ m.to) && decide (m.to < 16) && decide (m.d.length ≤ 1200)) by
        rw [HR.out, ← hL, List.drop_of_length_le (by have := Hl.out; omega)]; rfl)
      clear hL
      by_cases t0 : 0 ≤ m.fr
      · by_cases t1 : m.fr < 16
        · by_cases t2 : 0 ≤ m.to
          · by_cases t3 : m.to < 16
            · by_cases t4 : (n : Int) ≤ 1200
              · have t4' : m.d.length ≤ 1200 := by have := Hm.out; omega
                have HC := Lib.hid (show decide (MayM m) = true by rw [HB.out]; simp [t0, t1, t2, t3, t4'])
                go_wp2
                go_ret
                rw [HC.out]
                exact ⟨rfl, hb2⟩
              · have t4' : ¬ m.d.length ≤ 1200 := by have := Hm.out; omega
                have HC := Lib.hid (show decide (MayM m) = false by rw [HB.out]; simp [t4'])
                go_wp2
                go_ret
                rw [HC.out]
                exact ⟨rfl, hb2⟩
            · have HC := Lib.hid (show decide (MayM m) = false by rw [HB.out]; simp [t3])
              go_wp2
              go_ret
              rw [HC.out]
              exact ⟨rfl, hb2⟩
          · have HC := Lib.hid (show decide (MayM m) = false by rw [HB.out]; simp [t2])
            go_wp2
            go_ret
            rw [HC.out]
            exact ⟨rfl, hb2⟩
        · have HC := Lib.hid (show decide (MayM m) = false by rw [HB.out]; simp [t1])
          go_wp2
          go_ret
          rw [HC.out]
          exact ⟨rfl, hb2⟩
      · have HC := Lib.hid (show decide (MayM m) = false by rw [HB.out]; simp [t0])
        go_wp2
        go_ret
        rw [HC.out]
        exact ⟨rfl, hb2⟩
end
end Net
end Go.Proofs.Ytlmaelbalmjlbaa
