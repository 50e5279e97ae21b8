/- Layer 16: an end that nobody made; a load comes, and is acked (alive). -/
import Derived.Test.YtlmaelbalmjlbaaSesG
set_option linter.all false
namespace Go.Proofs.Ytlmaelbalmjlbaa
open Go.RowKit
namespace Ses
open Net
section
variable (w : World)
set_option maxRecDepth 100000 in
set_option maxHeartbeats 2000000 in
theorem send_nil (X : Option Addr) (m c : Nat) : Calls Try.prog 12 #[.pointer none, .slice X m c] w fun r w' => r = .returned (.int .i64 2) ∧ w = w' := by
  go_enter Try.func12, Try.ntmps12
  go_wp2_with fail
  refine (given_nil w).mono ?_
  rintro r w' ⟨rfl, rfl⟩
  go_wp2
  go_ret
  exact ⟨rfl, rfl⟩
set_option maxRecDepth 100000 in
set_option maxHeartbeats 2000000 in
theorem step_nil : Calls Try.prog 15 #[.pointer none] w fun r w' => r = .returned (.slice none 0 0) ∧ w = w' := by
  go_enter Try.func15, Try.ntmps15
  go_wp2_with fail
  refine (given_nil w).mono ?_
  rintro r w' ⟨rfl, rfl⟩
  go_wp2
  go_ret
  exact ⟨rfl, rfl⟩
set_option maxRecDepth 100000 in
set_option maxHeartbeats 2000000 in
theorem begin_nil (ep : Int) : Calls Try.prog 20 #[.pointer none, .int .i64 ep] w fun r w' => r = .returned (.int .i64 2) ∧ w = w' := by
  go_enter Try.func20, Try.ntmps20
  go_wp2_with fail
  refine (given_nil w).mono ?_
  rintro r w' ⟨rfl, rfl⟩
  go_wp2
  go_ret
  exact ⟨rfl, rfl⟩
set_option maxRecDepth 100000 in
set_option maxHeartbeats 2000000 in
theorem refuse_nil (m : Ms) (X : Option Addr) (n c : Nat) : Calls Try.prog 36 #[.pointer none, .agg (ma m (.slice X n c))] w fun r w' => r = .returned (.int .i64 2) ∧ Below w.heap.size w w' := by
  obtain ⟨w1, hw1⟩ : ∃ w1, w.alloc (.cells (ma m (.slice X n c)) 36) = w1 := ⟨_, rfl⟩
  have hb1 : Below w.heap.size w w1 := by rw [← hw1]; exact (Below.refl _ _).alloc (Nat.le_refl _) _
  go_enter Try.func36, Try.ntmps36
  go_wp2_with fail
  refine (given_nil w1).mono ?_
  rintro r w' ⟨rfl, rfl⟩
  go_wp2
  go_ret
  exact ⟨rfl, hb1⟩
set_option maxRecDepth 100000 in
set_option maxHeartbeats 2000000 in
theorem recv_nil (m : Ms) (X : Option Addr) (n c : Nat) : Calls Try.prog 17 #[.pointer none, .agg (ma m (.slice X n c))] w fun r w' => r = .returned (.tuple #[.slice none 0 0, .bool false, .int .i64 2]) ∧ Below w.heap.size w w' := by
  have hac := Blk.new w 36 (ma m (.slice X n c)) rfl
  obtain ⟨w1, hw1⟩ : ∃ w1, w.alloc (.cells (ma m (.slice X n c)) 36) = w1 := ⟨_, rfl⟩
  have hb1 : Below w.heap.size w w1 := by rw [← hw1]; exact (Below.refl _ _).alloc (Nat.le_refl _) _
  have hs1 := hb1.size
  rw [hw1] at hac
  obtain ⟨d0, d1, d2, d3, d4, d5, d6⟩ := ma_blk hac
  go_enter Try.func17, Try.ntmps17
  go_wp2_with fail
  refine (refuse_nil w1 m X n c).mono ?_
  rintro r w2 ⟨rfl, hb2⟩
  go_wp2
  go_ret3
  exact ⟨rfl, below_step hb1 hb2 (by omega)⟩
set_option maxRecDepth 100000 in
set_option maxHeartbeats 2000000 in
theorem send_no (b : Nat) (h : Blk w b 75 ea0) (X : Option Addr) (m c : Nat) : Calls Try.prog 12 #[.pointer (some ⟨b, 0, none⟩), .slice X m c] w fun r w' => r = .returned (.int .i64 2) ∧ w = w' := by
  go_enter Try.func12, Try.ntmps12
  go_wp2_with fail
  refine (given_no w b h).mono ?_
  rintro r w' ⟨rfl, rfl⟩
  go_wp2
  go_ret
  exact ⟨rfl, rfl⟩
set_option maxRecDepth 100000 in
set_option maxHeartbeats 2000000 in
theorem step_no (b : Nat) (h : Blk w b 75 ea0) : Calls Try.prog 15 #[.pointer (some ⟨b, 0, none⟩)] w fun r w' => r = .returned (.slice none 0 0) ∧ w = w' := by
  go_enter Try.func15, Try.ntmps15
  go_wp2_with fail
  refine (given_no w b h).mono ?_
  rintro r w' ⟨rfl, rfl⟩
  go_wp2
  go_ret
  exact ⟨rfl, rfl⟩
set_option maxRecDepth 100000 in
set_option maxHeartbeats 2000000 in
theorem begin_no (b : Nat) (h : Blk w b 75 ea0) (ep : Int) : Calls Try.prog 20 #[.pointer (some ⟨b, 0, none⟩), .int .i64 ep] w fun r w' => r = .returned (.int .i64 2) ∧ w = w' := by
  go_enter Try.func20, Try.ntmps20
  go_wp2_with fail
  refine (given_no w b h).mono ?_
  rintro r w' ⟨rfl, rfl⟩
  go_wp2
  go_ret
  exact ⟨rfl, rfl⟩
set_option maxRecDepth 100000 in
set_option maxHeartbeats 2000000 in
theorem refuse_no (b : Nat) (h : Blk w b 75 ea0) (m : Ms) (X : Option Addr) (n c : Nat) : Calls Try.prog 36 #[.pointer (some ⟨b, 0, none⟩), .agg (ma m (.slice X n c))] w fun r w' => r = .returned (.int .i64 2) ∧ Below w.heap.size w w' := by
  obtain ⟨w1, hw1⟩ : ∃ w1, w.alloc (.cells (ma m (.slice X n c)) 36) = w1 := ⟨_, rfl⟩
  have hb1 : Below w.heap.size w w1 := by rw [← hw1]; exact (Below.refl _ _).alloc (Nat.le_refl _) _
  go_enter Try.func36, Try.ntmps36
  go_wp2_with fail
  refine (given_no w1 b (h.keep hb1)).mono ?_
  rintro r w' ⟨rfl, rfl⟩
  go_wp2
  go_ret
  exact ⟨rfl, hb1⟩
set_option maxRecDepth 100000 in
set_option maxHeartbeats 2000000 in
theorem recv_no (b : Nat) (h : Blk w b 75 ea0) (m : Ms) (X : Option Addr) (n c : Nat) : Calls Try.prog 17 #[.pointer (some ⟨b, 0, none⟩), .agg (ma m (.slice X n c))] w fun r w' => r = .returned (.tuple #[.slice none 0 0, .bool false, .int .i64 2]) ∧ Below w.heap.size w w' := by
  have hac := Blk.new w 36 (ma m (.slice X n c)) rfl
  obtain ⟨w1, hw1⟩ : ∃ w1, w.alloc (.cells (ma m (.slice X n c)) 36) = w1 := ⟨_, rfl⟩
  have hb1 : Below w.heap.size w w1 := by rw [← hw1]; exact (Below.refl _ _).alloc (Nat.le_refl _) _
  have hs1 := hb1.size
  rw [hw1] at hac
  obtain ⟨d0, d1, d2, d3, d4, d5, d6⟩ := ma_blk hac
  go_enter Try.func17, Try.ntmps17
  go_wp2_with fail
  refine (refuse_no w1 b (h.keep hb1) m X n c).mono ?_
  rintro r w2 ⟨rfl, hb2⟩
  go_wp2
  go_ret3
  exact ⟨rfl, below_step hb1 hb2 (by omega)⟩
end
/-! ### two ends beside each other -/
/-- Blocks that are neither end's. -/
def Tw (w : World) (a b : Nat) (k : Nat) : Prop := k ≠ a ∧ k ≠ b ∧ k < w.heap.size
theorem Ed.tw {w w' : World} {a b c : Nat} {e : En} (h : Ed w' c (fun k => Tw w a b k ∨ w.heap.size ≤ k) e) (ha : a < w.heap.size) (hb : b < w.heap.size) (hc : c = a ∨ c = b) : Ed w' c (Tw w' a b) e :=
  h.sub (fun k hk hl => hk.elim (fun q => ⟨q.1, q.2.1, hl⟩) (fun q => ⟨by omega, by omega, hl⟩)) (fun q => hc.elim (fun e => q.1 e) (fun e => q.2.1 e))
theorem Ed.tw2 {w w' : World} {a b c d : Nat} {e : En} (h : Ed w c (Tw w a b) e) (hf : Fu (fun k => k = d) w w') (hd : d = a ∨ d = b) (hc : c = a ∨ c = b) (hne : c ≠ d) : Ed w' c (Tw w' a b) e :=
  (h.fu hf (fun k hk q => hd.elim (fun e => hk.1 (q.trans e)) (fun e => hk.2.1 (q.trans e))) hne).sub (fun k hk hl => ⟨hk.1, hk.2.1, hl⟩) (fun q => hc.elim (fun e => q.1 e) (fun e => q.2.1 e))
theorem Ed.tw0 {w : World} {a b c : Nat} {e : En} (h : Ed w c (fun _ => False) e) (hc : c = a ∨ c = b) : Ed w c (Tw w a b) e := h.sub (fun k hk _ => hk.elim) (fun q => hc.elim (fun e => q.1 e) (fun e => q.2.1 e))
theorem Ed.tw1 {w : World} {a b c : Nat} {e : En} (h : Ed w c (Tw w a b) e) {w' : World} (hb : Below w.heap.size w w') (hc : c = a ∨ c = b) : Ed w' c (Tw w' a b) e := (h.keep hb).sub (fun k hk hl => ⟨hk.1, hk.2.1, hl⟩) (fun q => hc.elim (fun e => q.1 e) (fun e => q.2.1 e))
def alA : En := sndS (newS 0 1 1) [120]
def alM : Ms := ⟨0, 1, 1, 1, 1, 0, [120]⟩
def alB : En := rcvS (newS 1 0 1) alM
def alK : Ms := ⟨1, 0, 2, 1, 0, 1, []⟩
theorem al1 : sndE (newS 0 1 1) [120] = 0 := by decide
theorem al2 : stpL alA = [alM] := by rfl
theorem al3 : isN (newS 1 0 1) alM = true ∧ wrnE (newS 1 0 1) alM = 0 ∧ rcvD (newS 1 0 1) alM = [120] := by decide
theorem al4 : stpL alB = [alK] := by rfl
theorem al5 : isN (stpS alA) alK = false ∧ wrnE (stpS alA) alK = 0 := by decide
theorem al6 : ((rcvS (stpS alA) alK).l.length - (rcvS (stpS alA) alK).a = 0) ∧ (stpS alB).c = 1 := by decide
section
variable (w : World)
set_option maxRecDepth 100000 in
set_option maxHeartbeats 4000000 in
theorem alive_ : Calls Try.prog 11 #[] w fun r w' => r = .returned (.bool true) ∧ Below w.heap.size w w' := by
  go_enter Try.func11, Try.ntmps11
  go_wp2_with fail
  refine (new_yes w 0 1 1 (by decide)).mono ?_
  rintro r w1 ⟨rfl, hA1, hb1, hs1⟩
  obtain ⟨a, ha⟩ : ∃ a, w.heap.size = a := ⟨_, rfl⟩
  rw [ha] at hA1 hb1 hs1 ⊢
  go_wp2_with fail
  refine (new_yes w1 1 0 1 (by decide)).mono ?_
  rw [hs1]
  rintro r w2 ⟨rfl, hC2, hb2, hs2⟩
  have hA2 := (hA1.keep (by rw [hs1]; exact hb2)).tw0 (a := a) (b := a + 1) (.inl rfl)
  have hC2 := hC2.tw0 (a := a) (b := a + 1) (.inr rfl)
  have hB2 : Below a w w2 := hb1.trans (hb2.mono (by omega))
  clear hA1 hb1 hb2
  obtain ⟨g, hg⟩ : ∃ g, w2.heap.size = g := ⟨_, rfl⟩
  have hga : g = a + 2 := by omega
  have hx : Bs (w2.alloc (.cells #[.int .u8 120] 5 (1, 2))) (some ⟨g, 0, none⟩) 1 [120] := by rw [← hg]; exact Bs.new w2 [120] _ (1, 2)
  have hb3 : Below w2.heap.size w2 (w2.alloc (.cells #[.int .u8 120] 5 (1, 2))) := (Below.refl _ _).alloc (Nat.le_refl _) _
  have hC3 := hC2.tw1 hb3 (.inr rfl)
  have hs3 : (w2.alloc (.cells #[.int .u8 120] 5 (1, 2))).heap.size = g + 1 := by simp [hg]
  have hS := send_ (w2.alloc (.cells #[.int .u8 120] 5 (1, 2))) a _ (newS 0 1 1) (hA2.tw1 hb3 (.inl rfl)) (some ⟨g, 0, none⟩) 1 1 [120] hx (fun h => by cases h) (Nat.le_refl _) (by omega)
  rw [al1] at hS
  have hB3 : Below a w (w2.alloc (.cells #[.int .u8 120] 5 (1, 2))) := hB2.trans (hb3.mono (by omega))
  generalize hw3 : w2.alloc (.cells #[.int .u8 120] 5 (1, 2)) = w3
  rw [hw3] at hS hC3 hB3 hs3
  have kc : (convert 34 34 (.slice (some ⟨g, 0, none⟩) 1 1)).run Try.prog (w2.alloc (.cells #[.int .u8 120] 5)) = .ok (.slice (some ⟨g, 0, none⟩) 1 1) w3 := by
    have := Joins.run_convert_bytes_const_at (P := Try.prog) w2 34 5 #[.int .u8 120] 1 1 g hg.symm Try.underlying34 Try.underlying5
    rw [this]
    exact congrArg _ hw3
  clear hx hb3 hA2 hC2 hw3 hB2
  rw [hs2] at hg
  subst hg
  go_wp2_with fail
  refine hS.mono ?_
  rintro r w4 ⟨rfl, hA4, hF4⟩
  have hA5 : Ed w4 a (Tw w4 a (a + 1)) alA := hA4.tw (by omega) (by omega) (.inl rfl)
  have hC5 := hC3.tw2 hF4 (.inl rfl) (.inr rfl) (by omega)
  have hB5 := hB3.trans (hF4.below (B := a) (by omega) (fun j q => by omega))
  have hs4 := hF4.size
  clear hS hA4 hC3 hB3 hF4 kc
  go_wp2_with fail
  refine (step_ w4 a _ alA hA5 (fun k hk => hk.2.2) (by decide) (by decide)).mono ?_
  rintro r w5 ⟨v5, P5, rfl, hP5, hl5, hA6, hF5⟩
  rw [al2] at hl5
  obtain ⟨⟨m5, x5⟩, hl6, hm5⟩ := List.map_eq_singleton_iff.1 hl5
  subst hl6
  have hm5 : m5 = alM := hm5
  subst hm5
  have hrow := hP5.row
  obtain ⟨A5, c5, hv5, hc5, _, _⟩ := own_form hrow
  subst hv5
  obtain ⟨g5, X5, p5, d5, rfl, _, hM5, hX5, hg5, hg5b, _, e0, e1, e2, e3, e4, e5, e6⟩ := hP5.get (k := 0) (by simp)
  have hA7 : Ed w5 a (Tw w5 a (a + 1)) (stpS alA) := hA6.sub (fun k hk hl => ⟨hk.1, hk.2.1, hl⟩) (fun q => q.1 rfl)
  have hC7 := hC5.tw2 hF5 (.inl rfl) (.inr rfl) (by omega)
  have hB7 := hB5.trans (hF5.below (B := a) (by omega) (fun j q => by omega))
  have hs5 := hF5.size
  simp only [Nat.zero_mul, List.getElem_cons_zero, Nat.zero_add] at hM5 e0 e1 e2 e3 e4 e5 e6
  have hR := recv_ w5 (a + 1) _ (newS 1 0 1) hC7 (fun k hk => hk.2.2) (by decide) (by decide) alM X5 p5 d5 hM5 (fun x hx _ q => by have := (hX5 x hx).1; omega)
  clear hA5 hC5 hB5 hA6 hF5 hP5 hl5 hrow hM5
  go_wp2_with fail
  refine hR.mono ?_
  rintro r w6 ⟨v6, rfl, hown6, hC8, hF6⟩
  rw [al3.1, al3.2.1]
  rw [al3.2.2] at hown6
  have hC9 : Ed w6 (a + 1) (Tw w6 a (a + 1)) alB := hC8.tw (by omega) (by omega) (.inr rfl)
  have hA9 := hA7.tw2 hF6 (.inr rfl) (.inl rfl) (by omega)
  have hB9 := hB7.trans (hF6.below (B := a) (by omega) (fun j q => by omega))
  have hs6 := hF6.size
  clear hR hC8 hF6 hA7 hC7 hB7 e0 e1 e2 e3 e4 e5 e6
  go_wp2_with fail
  refine (step_ w6 (a + 1) _ alB hC9 (fun k hk => hk.2.2) (by decide) (by decide)).mono ?_
  rintro r w7 ⟨v7, P7, rfl, hP7, hl7, hC10, hF7⟩
  rw [al4] at hl7
  obtain ⟨⟨m7, x7⟩, hl8, hm7⟩ := List.map_eq_singleton_iff.1 hl7
  subst hl8
  have hm7 : m7 = alK := hm7
  subst hm7
  have hrow := hP7.row
  obtain ⟨A7, c7, hv7, hc7, _, _⟩ := own_form hrow
  subst hv7
  obtain ⟨g7, X7, p7, d7, rfl, _, hM7, hX7, hg7, hg7b, _, e0, e1, e2, e3, e4, e5, e6⟩ := hP7.get (k := 0) (by simp)
  have hC11 : Ed w7 (a + 1) (Tw w7 a (a + 1)) (stpS alB) := hC10.sub (fun k hk hl => ⟨hk.1, hk.2.1, hl⟩) (fun q => q.2.1 rfl)
  have hA11 := hA9.tw2 hF7 (.inr rfl) (.inl rfl) (by omega)
  have hB11 := hB9.trans (hF7.below (B := a) (by omega) (fun j q => by omega))
  have hs7 := hF7.size
  have hown7 := own_fu hown6 hF7 (fun k hk q => by have := (hown6.lt k hk).1; omega)
  simp only [Nat.zero_mul, List.getElem_cons_zero, Nat.zero_add] at hM7 e0 e1 e2 e3 e4 e5 e6
  have hR := recv_ w7 a _ (stpS alA) hA11 (fun k hk => hk.2.2) (by decide) (by decide) alK X7 p7 d7 hM7 (fun x hx _ q => by have := (hX7 x hx).1; omega)
  clear hown6 hA9 hC9 hB9 hC10 hF7 hP7 hl7 hrow hM7
  go_wp2_with fail
  refine hR.mono ?_
  rintro r w8 ⟨v8, rfl, hown8, hA12, hF8⟩
  rw [al5.1, al5.2]
  have hA13 : Ed w8 a (Tw w8 a (a + 1)) (rcvS (stpS alA) alK) := hA12.tw (by omega) (by omega) (.inl rfl)
  have hC13 := hC11.tw2 hF8 (.inl rfl) (.inr rfl) (by omega)
  have hB13 := hB11.trans (hF8.below (B := a) (by omega) (fun j q => by omega))
  have hown9 := own_fu hown7 hF8 (fun k hk q => by have := (hown7.lt k hk).1; omega)
  obtain ⟨A9, c9, rfl, hc9, hm9, hA9n⟩ := own_form hown9
  have hst := run_str (P := Try.prog) (bs_own hown9) (fun h => (hA9n h).1) 34 9 5 Try.underlying34 Try.underlying5 Try.underlying9 c9
  have hO := open_ w8 a _ _ hA13
  have hK := came_ w8 (a + 1) _ _ hC13
  rw [al6.1] at hO
  rw [al6.2] at hK
  clear hR hown8 hA12 hF8 hA11 hC11 hB11 e0 e1 e2 e3 e4 e5 e6 hown7
  rw [show (((0 : Nat)) : Int) = 0 from rfl] at hO
  rw [show (((1 : Nat)) : Int) = 1 from rfl] at hK
  simp only [List.length_cons, List.length_nil, Nat.zero_add] at hst
  go_wp2_with fail
  refine hO.mono ?_
  rintro r w9 ⟨rfl, rfl⟩
  go_wp2_with fail
  refine hK.mono ?_
  rintro r w9 ⟨rfl, rfl⟩
  go_wp2
  go_ret
  exact ⟨rfl, by rw [ha]; exact hB13⟩
end
end Ses
end Go.Proofs.Ytlmaelbalmjlbaa
