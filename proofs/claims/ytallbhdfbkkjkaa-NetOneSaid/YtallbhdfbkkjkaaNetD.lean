/- Layer 15: whether two messages are the same: the program's answer. -/
import Derived.Test.YtallbhdfbkkjkaaNetA
set_option linter.all false
namespace Go.Proofs.Ytallbhdfbkkjkaa
open Go.RowKit
namespace Net
theorem same_is (a b : Ms) : decide (a = b) = ((a.fr == b.fr) && (a.to == b.to) && (a.k == b.k) && (a.ep == b.ep) && (a.sq == b.sq) && (a.ac == b.ac) && (a.d == b.d)) := by
  have h : ∀ c : Bool, ∀ p : Prop, [Decidable p] → (p ↔ c = true) → decide p = c := by
    intro c p _ hp
    cases c with
    | true => exact decide_eq_true (hp.2 rfl)
    | false => exact decide_eq_false (fun h => by cases hp.1 h)
  refine h _ _ ?_
  simp only [Bool.and_eq_true, beq_iff_eq]
  constructor
  · rintro rfl; simp
  · rintro ⟨⟨⟨⟨⟨⟨h1, h2⟩, h3⟩, h4⟩, h5⟩, h6⟩, h7⟩
    cases a; cases b; simp_all
section
variable (w : World)
set_option maxRecDepth 100000 in
set_option maxHeartbeats 4000000 in
theorem nsame_ (a b : Ms) (X Y : Option Addr) (n c m d : Nat) (ha : Mdt w a X n c) (hb : Mdt w b Y m d) :
    Calls Try.prog 15 #[.agg (ma a (.slice X n c)), .agg (ma b (.slice Y m d))] w fun e w' => e = .returned (.bool (decide (a = b))) ∧ Below w.heap.size w w' := by
  have HR := Lib.hid (same_is a b)
  have hA := Blk.new w 24 (ma a (.slice X n c)) rfl
  obtain ⟨w1, hw1⟩ : ∃ w1, w.alloc (.cells (ma a (.slice X n c)) 24) = w1 := ⟨_, rfl⟩
  have hs1 : w1.heap.size = w.heap.size + 1 := by rw [← hw1]; simp
  have hb1 : Below w.heap.size w w1 := by rw [← hw1]; exact (Below.refl _ _).alloc (Nat.le_refl _) _
  rw [hw1] at hA
  have hB := Blk.new w1 24 (ma b (.slice Y m d)) rfl
  obtain ⟨w2, hw2⟩ : ∃ w2, w1.alloc (.cells (ma b (.slice Y m d)) 24) = w2 := ⟨_, rfl⟩
  have hs2 : w2.heap.size = w.heap.size + 2 := by rw [← hw2]; simp [hs1]
  have hb2 : Below w1.heap.size w1 w2 := by rw [← hw2]; exact (Below.refl _ _).alloc (Nat.le_refl _) _
  rw [hw2, hs1] at hB
  have hA2 := hA.keep hb2
  have hB2 := below_step hb1 hb2 (by omega)
  have ha2 := ha.below hB2
  have hb2' := hb.below hB2
  obtain ⟨a0, a1, a2, a3, a4, a5, a6⟩ := ma_blk hA2
  obtain ⟨b0, b1, b2, b3, b4, b5, b6⟩ := ma_blk hB
  clear hA hb1 hb2 hA2 hB ha hb
  cases h0 : (a.fr == b.fr) with
  | false =>
    have HB := Lib.hid (show decide (a = b) = false by rw [HR.out, h0]; simp)
    have k0 : ¬ a.fr = b.fr := by simpa using h0
    go_enter Try.func15, Try.ntmps15
    go_wp2
    go_ret
    rw [HB.out]
    exact ⟨rfl, hB2⟩
  | true =>
    have k0 : decide (a.fr = b.fr) = true := by simpa using h0
    cases h1 : (a.to == b.to) with
    | false =>
      have HB := Lib.hid (show decide (a = b) = false by rw [HR.out, h0, h1]; simp)
      have k1 : ¬ a.to = b.to := by simpa using h1
      go_enter Try.func15, Try.ntmps15
      go_wp2
      go_ret
      rw [HB.out]
      exact ⟨rfl, hB2⟩
    | true =>
      have k1 : decide (a.to = b.to) = true := by simpa using h1
      cases h2 : (a.k == b.k) with
      | false =>
        have HB := Lib.hid (show decide (a = b) = false by rw [HR.out, h0, h1, h2]; simp)
        have k2 : ¬ a.k = b.k := by simpa using h2
        go_enter Try.func15, Try.ntmps15
        go_wp2
        go_ret
        rw [HB.out]
        exact ⟨rfl, hB2⟩
      | true =>
        have k2 : decide (a.k = b.k) = true := by simpa using h2
        cases h3 : (a.ep == b.ep) with
        | false =>
          have HB := Lib.hid (show decide (a = b) = false by rw [HR.out, h0, h1, h2, h3]; simp)
          have k3 : ¬ a.ep = b.ep := by simpa using h3
          go_enter Try.func15, Try.ntmps15
          go_wp2
          go_ret
          rw [HB.out]
          exact ⟨rfl, hB2⟩
        | true =>
          have k3 : decide (a.ep = b.ep) = true := by simpa using h3
          cases h4 : (a.sq == b.sq) with
          | false =>
            have HB := Lib.hid (show decide (a = b) = false by rw [HR.out, h0, h1, h2, h3, h4]; simp)
            have k4 : ¬ a.sq = b.sq := by simpa using h4
            go_enter Try.func15, Try.ntmps15
            go_wp2
            go_ret
            rw [HB.out]
            exact ⟨rfl, hB2⟩
          | true =>
            have k4 : decide (a.sq = b.sq) = true := by simpa using h4
            cases h5 : (a.ac == b.ac) with
            | false =>
              have HB := Lib.hid (show decide (a = b) = false by rw [HR.out, h0, h1, h2, h3, h4, h5]; simp)
              have k5 : ¬ a.ac = b.ac := by simpa using h5
              go_enter Try.func15, Try.ntmps15
              go_wp2
              go_ret
              rw [HB.out]
              exact ⟨rfl, hB2⟩
            | true =>
              have k5 : decide (a.ac = b.ac) = true := by simpa using h5
              have HB := Lib.hid (show decide (a = b) = (a.d == b.d) by rw [HR.out, h0, h1, h2, h3, h4, h5]; simp)
              go_enter Try.func15, Try.ntmps15
              go_wp2_with fail
              refine (equal_ X Y n c m d a.d b.d _ ha2.bs hb2'.bs (fun h => (ha2.nil h).1) (fun h => (hb2'.nil h).1)).mono ?_
              obtain ⟨R, hR⟩ : ∃ R, (a.d == b.d) = R := ⟨_, rfl⟩
              rw [hR]
              have HQ := Lib.hid hR
              clear hR
              rintro e w3 ⟨rfl, rfl⟩
              go_wp2
              go_ret
              rw [HB.out, HQ.out]
              exact ⟨rfl, hB2⟩
end
end Net
end Go.Proofs.Ytallbhdfbkkjkaa
