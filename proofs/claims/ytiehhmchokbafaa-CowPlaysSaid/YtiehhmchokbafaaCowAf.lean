/- Layer 7: the document's Deepest; the law CowDeep. -/
import Derived.Test.YtiehhmchokbafaaCowAe
set_option linter.all false
namespace Go.Proofs.Ytiehhmchokbafaa
open Go.ChangeShapes Go.WideShapes Go.ChangeAt Go.RowKit

theorem bits_step (n : Nat) : bitsN (n + 1) = bitsN ((n + 1) / 2) + 1 := bitsN_pos (by omega)
theorem bits_le : ∀ n : Nat, bitsN n ≤ n := by
  intro n
  induction n using Nat.strongRecOn with
  | ind n ih =>
    rcases Nat.eq_zero_or_pos n with h | h
    · subst h; rw [bitsN_zero]; exact Nat.le_refl _
    · rw [bitsN_pos h]; have := ih (n / 2) (by omega); omega
set_option maxRecDepth 100000 in
set_option maxHeartbeats 1000000 in
theorem deepest_ (n : Nat) (hn : n ≤ 100000) (w : World) : Calls Try.prog 26 #[.int .i64 (n : Int)] w fun e w' => e = .returned (.int .i64 ((deepest n : Nat) : Int)) ∧ w = w' := by
  go_enter Try.func26, Try.ntmps26
  go_wp2_with fail
  go_loopw [0, 3] (fun nv bv wr => ∃ m b : Nat, m ≤ n + 1 ∧ nv = .int .i64 ((m : Int) - 1) ∧ bv = .int .i64 (b : Int) ∧ b + bitsN m = bitsN (n + 1) ∧ w = wr) (fun nv _ _ => (intOf nv + 1).toNat)
  case atStart => exact ⟨n + 1, 0, Nat.le_refl _, by simp, rfl, by omega, rfl⟩
  case round =>
    obtain ⟨m, b, hm, rfl, rfl, hb, rfl⟩ := hrel
    have hble := bits_le (n + 1)
    by_cases h0 : m = 0
    · subst h0
      have hbe : b = bitsN (n + 1) := by rw [bitsN_zero] at hb; omega
      have hd : ((b : Int) * 3).tdiv 2 = ((b * 3 / 2 : Nat) : Int) := by rw [Int.tdiv_eq_ediv_of_nonneg (by omega)]; omega
      have Hd := Lib.hid (show deepest n = b * 3 / 2 + 1 by unfold deepest; rw [hbe])
      have hw1 : IntKind.i64.wrap ((b : Int) * 3) = (b : Int) * 3 := by rw [IntKind.wrap_i64]; omega
      have hw2 : IntKind.i64.wrap (((b * 3 / 2 : Nat) : Int) + 1) = ((b * 3 / 2 + 1 : Nat) : Int) := by rw [IntKind.wrap_i64]; omega
      have hbl : b ≤ 100001 := by omega
      clear hbe hb
      go_wp2
      go_ret
      rw [Hd.out]
      first
        | exact ⟨rfl, rfl⟩
        | (refine ⟨?_, rfl⟩; simp [hd, hw1, hw2]; unfold wrap64; omega)
    · have hs : bitsN m = bitsN (m / 2) + 1 := bitsN_pos (by omega)
      have hpos : (0 : Int) < (m : Int) := by omega
      have hw1 : IntKind.i64.wrap ((m : Int) - 1 + 1) = (m : Int) := by rw [IntKind.wrap_i64]; omega
      have hd : ((m : Int)).tdiv 2 = ((m / 2 : Nat) : Int) := by rw [Int.tdiv_eq_ediv_of_nonneg (by omega)]; omega
      have hw2 : IntKind.i64.wrap (((m / 2 : Nat) : Int) - 1) = ((m / 2 : Nat) : Int) - 1 := by rw [IntKind.wrap_i64]; omega
      have hw3 : IntKind.i64.wrap ((b : Int) + 1) = ((b + 1 : Nat) : Int) := by rw [IntKind.wrap_i64]; omega
      have Hb := Lib.hid (show b + 1 + bitsN (m / 2) = bitsN (n + 1) by omega)
      clear hs hb
      go_wp2
      go_roundw
      case rel => exact ⟨m / 2, b + 1, by omega, by first | rfl | (simp [hd, hw1, hw2]; try omega), by first | rfl | go_num, Hb.out, trivial⟩
      case measure => first | (simp [intOf]; omega) | (simp [intOf, hd]; omega)
/-- Where a script stands: a forest, of whose trees each is in order. -/
structure ScrF (w wr : World) (f : Nat) (ls : List Root) (k : Nat) : Prop where
  fo : Fo wr w.heap.size f ls
  few : ls.length ≤ k + 1
  below : Below w.heap.size w wr
theorem rootAt_new (ls : List Root) (q : Root) : rootAt (ls ++ [q]) (ls.length : Int) = some q := by
  rw [rootAt_nat, List.getElem?_append_right (Nat.le_refl _), Nat.sub_self]
  rfl
theorem actA (w : World) (kd : Nat) (r : Int) (x : Ext) : Below w.heap.size w (w.alloc (.cells (actC kd r x) 26)) := (Below.refl _ _).alloc (Nat.le_refl _) _
theorem rootAt_app {ls : List Root} {r : Int} {q : Root} (h : rootAt ls r = some q) (q' : Root) : rootAt (ls ++ [q']) r = some q := by
  obtain ⟨k, rfl, hk⟩ := rootAt_some h
  rw [rootAt_nat, List.getElem?_append_left (List.getElem?_eq_some_iff.1 hk).1]
  exact hk
end Go.Proofs.Ytiehhmchokbafaa
