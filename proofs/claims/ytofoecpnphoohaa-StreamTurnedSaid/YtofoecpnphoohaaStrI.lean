/- Layer 10: next: the first record of what waits. -/
import Derived.Test.YtofoecpnphoohaaStrH
import Derived.Test.YtofoecpnphoohaaSumWb
set_option linter.all false
namespace Go.Proofs.Ytofoecpnphoohaa
open Go.RowKit
namespace Str
open Blo (I64)
theorem rInt_first_short {xs : List UInt8} (h : xs.length < 8) : rInt xs 700 ⟨0, 0, 0⟩ = (0, ⟨0, 3, xs.length⟩) := by
  unfold rInt; rw [if_neg (by simp), if_pos (by simp only; omega)]
theorem numAt_take8 (xs : List UInt8) : numAt (xs.take 8) = numAt xs := by
  unfold numAt; rw [List.take_take, Nat.min_self]
theorem rInt_first_big {xs : List UInt8} (h : 8 ≤ xs.length) (hb : 700 < numAt xs) : rInt (xs.take 8) 700 ⟨0, 0, 0⟩ = (0, ⟨0, 6, 0⟩) := by
  unfold rInt; rw [if_neg (by simp), if_neg (by simp only [List.length_take]; omega), List.drop_zero, numAt_take8, if_pos (by omega)]
theorem rInt_first_ok {xs : List UInt8} (h : 8 ≤ xs.length) (hb : numAt xs ≤ 700) : rInt (xs.take 8) 700 ⟨0, 0, 0⟩ = (numAt xs, ⟨8, 0, 0⟩) := by
  unfold rInt; rw [if_neg (by simp), if_neg (by simp only [List.length_take]; omega), List.drop_zero, numAt_take8, if_neg (by omega)]
theorem k8z {w : World} {b : Nat} {t : TypeId} (h : Blk w b t ra0) : (w.cell? ⟨b, 0, none⟩ = some (.int .i64 0) ∧ w.cell? ⟨b, 1, none⟩ = some (.int .i64 0) ∧ w.cell? ⟨b, 2, none⟩ = some (.int .i64 0) ∧ w.cell? ⟨b, 3, none⟩ = some (.int .i64 0) ∧ w.cell? ⟨b, 4, none⟩ = some (.int .i64 0) ∧ w.cell? ⟨b, 5, none⟩ = some (.int .i64 0) ∧ w.cell? ⟨b, 6, none⟩ = some (.int .i64 0) ∧ w.cell? ⟨b, 7, none⟩ = some (.slice none 0 0)) ∧ ∀ j, w.frozen? ⟨b, j, none⟩ = false :=
  ⟨⟨h.cell rfl, h.cell rfl, h.cell rfl, h.cell rfl, h.cell rfl, h.cell rfl, h.cell rfl, h.cell rfl⟩, h.free⟩
/-- A record's cells, all written over. -/
theorem blk_all {w : World} {b : Nat} {t : TypeId} (h : Blk w b t ra0) (v0 v1 v2 v3 v4 v5 v6 v7 : Value) : Blk ((((((((w.setCell ⟨b, 0, none⟩ v0).setCell ⟨b, 1, none⟩ v1).setCell ⟨b, 2, none⟩ v2).setCell ⟨b, 3, none⟩ v3).setCell ⟨b, 4, none⟩ v4).setCell ⟨b, 5, none⟩ v5).setCell ⟨b, 6, none⟩ v6).setCell ⟨b, 7, none⟩ v7) b t #[v0, v1, v2, v3, v4, v5, v6, v7] := by
  have := (((((((h.setCell 0 v0).setCell 1 v1).setCell 2 v2).setCell 3 v3).setCell 4 v4).setCell 5 v5).setCell 6 v6).setCell 7 v7
  simpa using this
theorem below_all {w a : World} {b B : Nat} (h : Below B a w) (hb : B ≤ b) (v0 v1 v2 v3 v4 v5 v6 v7 : Value) : Below B a ((((((((w.setCell ⟨b, 0, none⟩ v0).setCell ⟨b, 1, none⟩ v1).setCell ⟨b, 2, none⟩ v2).setCell ⟨b, 3, none⟩ v3).setCell ⟨b, 4, none⟩ v4).setCell ⟨b, 5, none⟩ v5).setCell ⟨b, 6, none⟩ v6).setCell ⟨b, 7, none⟩ v7) :=
  (((((((h.setCell hb _).setCell hb _).setCell hb _).setCell hb _).setCell hb _).setCell hb _).setCell hb _).setCell hb _
theorem grown_all (w : World) (b : Nat) (v0 v1 v2 v3 v4 v5 v6 v7 : Value) : w.grownBy ((((((((w.setCell ⟨b, 0, none⟩ v0).setCell ⟨b, 1, none⟩ v1).setCell ⟨b, 2, none⟩ v2).setCell ⟨b, 3, none⟩ v3).setCell ⟨b, 4, none⟩ v4).setCell ⟨b, 5, none⟩ v5).setCell ⟨b, 6, none⟩ v6).setCell ⟨b, 7, none⟩ v7) (some b) :=
  grown_sets b [v0, v1, v2, v3, v4, v5, v6, v7] 0 w
theorem dr_length (y : List UInt8) : (dr y).d.length = cnt y := by
  unfold dr
  dsimp only
  exact gl_length y (cnt y)
theorem field_why (a b : Int) (W : World) : (Instr.field 34 (.agg #[.int .i64 a, .int .i64 b]) 0).run Try.prog W = .ok (.int .i64 a) W := by kernel_rfl
/-- What next answers. -/
def nxE (xs : List UInt8) : Int := failE xs
def nxN (xs : List UInt8) : Nat := if goes xs = true then 8 + numAt xs else 0
def nxR (xs : List UInt8) : Rec := if goes xs = true then firstR xs else ⟨0, 0, 0, 0, 0, 0, 0, []⟩
def NxA (w w' : World) (e : Ending) (xs : List UInt8) : Prop :=
  ∃ X c, e = .returned (.tuple #[.agg (ra (nxR xs) (.slice X (nxR xs).d.length c)), .int .i64 (nxN xs : Int), .int .i64 (nxE xs)]) ∧ w'.ownsRow w.heap.size 52 1 (.slice X (nxR xs).d.length c) (nxR xs).d.length (nvs (nxR xs).d) ∧ Below w.heap.size w w'
theorem nxA_no {w w' : World} {e : Ending} {xs : List UInt8} {E : Int} (hg : goes xs = false) (hE : failE xs = E) (he : e = .returned (.tuple #[.agg ra0, .int .i64 0, .int .i64 E])) (hb : Below w.heap.size w w') : NxA w w' e xs := by
  refine ⟨none, 0, ?_, ?_, hb⟩
  · rw [he]
    unfold nxR nxN nxE
    rw [hg, hE]
    rfl
  · unfold nxR
    rw [hg]
    exact own_nil _ _ _ _
theorem goes_not {xs : List UInt8} (h : xs.length < 8 ∨ 700 < numAt xs ∨ xs.length < numAt xs + 8 ∨ decE ((xs.drop 8).take (numAt xs)) ≠ 0) : goes xs = false := by
  rw [Bool.eq_false_iff]
  intro hg
  have := (goes_iff xs).1 hg
  rcases h with h | h | h | h
  · omega
  · omega
  · omega
  · exact h this.2.2.2
section
variable (w : World)
set_option maxRecDepth 100000 in
set_option maxHeartbeats 4000000 in
theorem next_short (A : Option Addr) (n c : Nat) (xs : List UInt8) (h : Bs w A n xs) (hA : A = none → n = 0 ∧ c = 0) (hnc : n ≤ c) (hc : c ≤ 9223372036854775807) (h8 : n < 8) :
    Calls Try.prog 23 #[.slice A n c] w fun e w' => NxA w w' e xs := by
  have hl := h.len
  have HG := Lib.hid (goes_not (xs := xs) (.inl (by omega)))
  have HE := Lib.hid (show failE xs = 0 by unfold failE; rw [if_pos (by omega)])
  have HR := Lib.hid (rInt_first_short (xs := xs) (by omega))
  have hac := Blk.new w 39 ra0 rfl
  obtain ⟨w1, hw1⟩ : ∃ w1, w.alloc (.cells ra0 39) = w1 := ⟨_, rfl⟩
  have hs1 : w1.heap.size = w.heap.size + 1 := by rw [← hw1]; simp
  have hb1 : Below w.heap.size w w1 := by rw [← hw1]; exact (Below.refl _ _).alloc (Nat.le_refl _) _
  rw [hw1] at hac
  have h1 := h.below hb1
  have hxl : xs.length ≤ 140737488355328 := by omega
  have hn8 : (n : Int) < 8 := by omega
  have hmn : min (n : Int) 8 = (n : Int) := by omega
  have hn0 : (0 : Int) ≤ (n : Int) := by omega
  have Hl := Lib.hid hl
  clear h hl
  go_enter Try.func23, Try.ntmps23
  go_wp2_with fail
  refine (pnew_ A n c xs _ h1 hA hnc hc (by omega)).mono ?_
  rintro e w2 ⟨br, rfl, hbr, hR0, hb2⟩
  have hac2 := hac.keep hb2
  have hB2 := below_step hb1 hb2 (Nat.le_refl _)
  have hs2 := hb2.size
  clear hac hb1 hb2 h1 hw1
  go_wp2_with fail
  refine (int_ br xs ⟨0, 0, 0⟩ 700 _ hR0 hxl (by omega)).mono ?_
  rw [HR.out]
  rintro e w3 ⟨rfl, hR3, hg3⟩
  have hac3 := hac2.grown hg3 (fun e => by injection e with e; omega)
  have hB3 : Below w.heap.size w w3 := hB2.grown hg3 hB2.size (fun q hq => by injection hq with hq; omega)
  clear hac2 hB2 hg3 hR0
  go_wp2_with fail
  refine (fault_ br xs ⟨0, 3, xs.length⟩ _ hR3).mono ?_
  rintro e w4 ⟨rfl, hb4⟩
  have hac4 := hac3.keep hb4
  have hB4 : Below w.heap.size w w4 := hB3.trans (hb4.mono hB3.size)
  clear hac3 hB3 hb4 hR3
  obtain ⟨⟨g0, g1, g2, g3, g4, g5, g6, g7⟩, z⟩ := k8z hac4
  have hfd := fun W => field_why 3 (xs.length : Int) W
  go_wp2
  refine bodyPost_ret (results_rec3 rfl rfl (blk_all hac4 _ _ _ _ _ _ _ _)) rfl ?_
  exact nxA_no HG.out HE.out rfl (below_all hB4 (Nat.le_refl _) _ _ _ _ _ _ _ _)
set_option maxRecDepth 100000 in
set_option maxHeartbeats 4000000 in
theorem next_big (A : Option Addr) (n c : Nat) (xs : List UInt8) (h : Bs w A n xs) (hA : A = none → n = 0 ∧ c = 0) (hnc : n ≤ c) (hc : c ≤ 9223372036854775807) (hn : n ≤ 140737488351300) (h8 : 8 ≤ n) (hN : 700 < numAt xs) :
    Calls Try.prog 23 #[.slice A n c] w fun e w' => NxA w w' e xs := by
  have hl := h.len
  have HG := Lib.hid (goes_not (xs := xs) (.inr (.inl hN)))
  have HE := Lib.hid (show failE xs = 6 by unfold failE; rw [if_neg (by omega), if_pos hN])
  have HR := Lib.hid (rInt_first_big (xs := xs) (by omega) hN)
  clear hN
  have hac := Blk.new w 39 ra0 rfl
  obtain ⟨w1, hw1⟩ : ∃ w1, w.alloc (.cells ra0 39) = w1 := ⟨_, rfl⟩
  have hs1 : w1.heap.size = w.heap.size + 1 := by rw [← hw1]; simp
  have hb1 : Below w.heap.size w w1 := by rw [← hw1]; exact (Below.refl _ _).alloc (Nat.le_refl _) _
  rw [hw1] at hac
  have h1 := h.below hb1
  have ht1 := h1.take (k := 8) h8
  have hxl : (xs.take 8).length ≤ 140737488355328 := by rw [List.length_take]; omega
  have hmn : min (n : Int) 8 = 8 := by omega
  have hn8 : (8 : Int) ≤ (c : Int) := by omega
  have hn8' : 8 ≤ c := by omega
  have hA8 : A = none → 8 = 0 ∧ c = 0 := fun e => by have := hA e; omega
  have Hl := Lib.hid hl
  clear h hl
  go_enter Try.func23, Try.ntmps23
  go_wp2_with fail
  refine (pnew_ A 8 c (xs.take 8) _ ht1 hA8 hn8' hc (by omega)).mono ?_
  rintro e w2 ⟨br, rfl, hbr, hR0, hb2⟩
  have hac2 := hac.keep hb2
  have hB2 := below_step hb1 hb2 (Nat.le_refl _)
  have hs2 := hb2.size
  have h2 := h1.below hb2
  have hne2 : ∀ a : Addr, A = some a → ¬ a.block = br := fun a ha => by have := rd_block h1 a ha (by omega); omega
  clear hac hb1 hb2 h1 ht1 hw1
  go_wp2_with fail
  refine (int_ br (xs.take 8) ⟨0, 0, 0⟩ 700 _ hR0 hxl (by omega)).mono ?_
  rw [HR.out]
  rintro e w3 ⟨rfl, hR3, hg3⟩
  have hac3 := hac2.grown hg3 (fun e => by injection e with e; omega)
  have hB3 : Below w.heap.size w w3 := hB2.grown hg3 hB2.size (fun q hq => by injection hq with hq; omega)
  have h3 := h2.grown hg3 (fun a ha e => by injection e with e; exact absurd e (hne2 a ha))
  clear hac2 hB2 hg3 hR0 h2
  go_wp2_with fail
  refine (fault_ br (xs.take 8) ⟨0, 6, 0⟩ _ hR3).mono ?_
  rintro e w4 ⟨rfl, hb4⟩
  have hac4 := hac3.keep hb4
  have hB4 : Below w.heap.size w w4 := hB3.trans (hb4.mono hB3.size)
  have h4 := h3.below hb4
  clear hac3 hB3 hb4 hR3 h3
  obtain ⟨⟨g0, g1, g2, g3, g4, g5, g6, g7⟩, z⟩ := k8z hac4
  have hfd := fun W => field_why 6 0 W
  go_wp2
  refine bodyPost_ret (results_rec3 rfl rfl (blk_all hac4 _ _ _ _ _ _ _ _)) rfl ?_
  exact nxA_no HG.out HE.out rfl (below_all hB4 (Nat.le_refl _) _ _ _ _ _ _ _ _)
set_option maxRecDepth 100000 in
set_option maxHeartbeats 4000000 in
theorem next_part (A : Option Addr) (n c : Nat) (xs : List UInt8) (h : Bs w A n xs) (hA : A = none → n = 0 ∧ c = 0) (hnc : n ≤ c) (hc : c ≤ 9223372036854775807) (hn : n ≤ 140737488351300) (h8 : 8 ≤ n) (hN : numAt xs ≤ 700) (hM : n < numAt xs + 8) :
    Calls Try.prog 23 #[.slice A n c] w fun e w' => NxA w w' e xs := by
  have hl := h.len
  have HG := Lib.hid (goes_not (xs := xs) (.inr (.inr (.inl (by omega)))))
  have HE := Lib.hid (show failE xs = 0 by unfold failE; rw [if_neg (by omega), if_neg (by omega), if_pos (by omega)])
  obtain ⟨N, hNN⟩ : ∃ N, numAt xs = N := ⟨_, rfl⟩
  rw [hNN] at hN hM
  have HN := Lib.hid hNN
  have HR := Lib.hid (rInt_first_ok (xs := xs) (by omega) (by rw [hNN]; exact hN))
  rw [hNN] at HR
  clear hNN
  have hac := Blk.new w 39 ra0 rfl
  obtain ⟨w1, hw1⟩ : ∃ w1, w.alloc (.cells ra0 39) = w1 := ⟨_, rfl⟩
  have hs1 : w1.heap.size = w.heap.size + 1 := by rw [← hw1]; simp
  have hb1 : Below w.heap.size w w1 := by rw [← hw1]; exact (Below.refl _ _).alloc (Nat.le_refl _) _
  rw [hw1] at hac
  have h1 := h.below hb1
  have ht1 := h1.take (k := 8) h8
  have hxl : (xs.take 8).length ≤ 140737488355328 := by rw [List.length_take]; omega
  have hmn : min (n : Int) 8 = 8 := by omega
  have hn8 : (8 : Int) ≤ (c : Int) := by omega
  have hn8' : 8 ≤ c := by omega
  have hA8 : A = none → 8 = 0 ∧ c = 0 := fun e => by have := hA e; omega
  have Hl := Lib.hid hl
  clear h hl
  go_enter Try.func23, Try.ntmps23
  go_wp2_with fail
  refine (pnew_ A 8 c (xs.take 8) _ ht1 hA8 hn8' hc (by omega)).mono ?_
  rintro e w2 ⟨br, rfl, hbr, hR0, hb2⟩
  have hac2 := hac.keep hb2
  have hB2 := below_step hb1 hb2 (Nat.le_refl _)
  have hs2 := hb2.size
  have h2 := h1.below hb2
  have hne2 : ∀ a : Addr, A = some a → ¬ a.block = br := fun a ha => by have := rd_block h1 a ha (by omega); omega
  clear hac hb1 hb2 h1 ht1 hw1
  go_wp2_with fail
  refine (int_ br (xs.take 8) ⟨0, 0, 0⟩ 700 _ hR0 hxl (by omega)).mono ?_
  rw [HR.out]
  rintro e w3 ⟨rfl, hR3, hg3⟩
  have hac3 := hac2.grown hg3 (fun e => by injection e with e; omega)
  have hB3 : Below w.heap.size w w3 := hB2.grown hg3 hB2.size (fun q hq => by injection hq with hq; omega)
  have h3 := h2.grown hg3 (fun a ha e => by injection e with e; exact absurd e (hne2 a ha))
  clear hac2 hB2 hg3 hR0 h2
  go_wp2_with fail
  refine (fault_ br (xs.take 8) ⟨8, 0, 0⟩ _ hR3).mono ?_
  rintro e w4 ⟨rfl, hb4⟩
  have hac4 := hac3.keep hb4
  have hB4 : Below w.heap.size w w4 := hB3.trans (hb4.mono hB3.size)
  have h4 := h3.below hb4
  clear hac3 hB3 hb4 hR3 h3
  obtain ⟨⟨g0, g1, g2, g3, g4, g5, g6, g7⟩, z⟩ := k8z hac4
  have hfd := fun W => field_why 0 0 W
  have ht : (n : Int) < 8 + (N : Int) := by omega
  have ht2 : IntKind.i64.wrap (8 + (N : Int)) = 8 + (N : Int) := by rw [IntKind.wrap_i64]; omega
  go_wp2
  refine bodyPost_ret (results_rec3 rfl rfl (blk_all hac4 _ _ _ _ _ _ _ _)) rfl ?_
  exact nxA_no HG.out HE.out rfl (below_all hB4 (Nat.le_refl _) _ _ _ _ _ _ _ _)
-- whole
set_option maxRecDepth 100000 in
set_option maxHeartbeats 4000000 in
theorem next_empty (A : Option Addr) (n c : Nat) (xs : List UInt8) (h : Bs w A n xs) (hA : A = none → n = 0 ∧ c = 0) (hnc : n ≤ c) (hc : c ≤ 9223372036854775807) (hn : n ≤ 140737488351300) (h8 : 8 ≤ n) (hN : numAt xs ≤ 700) (hM : numAt xs + 8 ≤ n) (hc8 : c = 8) :
    Calls Try.prog 23 #[.slice A n c] w fun e w' => NxA w w' e xs := by
  have hl := h.len
  have hN0 : numAt xs = 0 := by omega
  have Hc8 := Lib.hid hc8
  clear hc8
  have hE4 : decE ((xs.drop 8).take (numAt xs)) = 4 := by rw [hN0, List.take_zero]; decide
  have HG := Lib.hid (goes_not (xs := xs) (.inr (.inr (.inr (by rw [hE4]; decide)))))
  have HE := Lib.hid (show failE xs = 4 by unfold failE; rw [if_neg (by omega), if_neg (by omega), if_neg (by omega), hE4])
  clear hE4
  obtain ⟨N, hNN⟩ : ∃ N, numAt xs = N := ⟨_, rfl⟩
  rw [hNN] at hN hM hN0
  have HN := Lib.hid hNN
  have HR := Lib.hid (rInt_first_ok (xs := xs) (by omega) (by rw [hNN]; exact hN))
  rw [hNN] at HR
  clear hNN
  have hac := Blk.new w 39 ra0 rfl
  obtain ⟨w1, hw1⟩ : ∃ w1, w.alloc (.cells ra0 39) = w1 := ⟨_, rfl⟩
  have hs1 : w1.heap.size = w.heap.size + 1 := by rw [← hw1]; simp
  have hb1 : Below w.heap.size w w1 := by rw [← hw1]; exact (Below.refl _ _).alloc (Nat.le_refl _) _
  rw [hw1] at hac
  have h1 := h.below hb1
  have ht1 := h1.take (k := 8) h8
  have hxl : (xs.take 8).length ≤ 140737488355328 := by rw [List.length_take]; omega
  have hmn : min (n : Int) 8 = 8 := by omega
  have hn8 : (8 : Int) ≤ (c : Int) := by omega
  have hn8' : 8 ≤ c := by omega
  have hA8 : A = none → 8 = 0 ∧ c = 0 := fun e => by have := hA e; omega
  have Hl := Lib.hid hl
  clear h hl
  go_enter Try.func23, Try.ntmps23
  go_wp2_with fail
  refine (pnew_ A 8 c (xs.take 8) _ ht1 hA8 hn8' hc (by omega)).mono ?_
  rintro e w2 ⟨br, rfl, hbr, hR0, hb2⟩
  have hac2 := hac.keep hb2
  have hB2 := below_step hb1 hb2 (Nat.le_refl _)
  have hs2 := hb2.size
  have h2 := h1.below hb2
  have hne2 : ∀ a : Addr, A = some a → ¬ a.block = br := fun a ha => by have := rd_block h1 a ha (by omega); omega
  clear hac hb1 hb2 h1 ht1 hw1
  go_wp2_with fail
  refine (int_ br (xs.take 8) ⟨0, 0, 0⟩ 700 _ hR0 hxl (by omega)).mono ?_
  rw [HR.out]
  rintro e w3 ⟨rfl, hR3, hg3⟩
  have hac3 := hac2.grown hg3 (fun e => by injection e with e; omega)
  have hB3 : Below w.heap.size w w3 := hB2.grown hg3 hB2.size (fun q hq => by injection hq with hq; omega)
  have h3 := h2.grown hg3 (fun a ha e => by injection e with e; exact absurd e (hne2 a ha))
  clear hac2 hB2 hg3 hR0 h2
  go_wp2_with fail
  refine (fault_ br (xs.take 8) ⟨8, 0, 0⟩ _ hR3).mono ?_
  rintro e w4 ⟨rfl, hb4⟩
  have hac4 := hac3.keep hb4
  have hB4 : Below w.heap.size w w4 := hB3.trans (hb4.mono hB3.size)
  have h4 := h3.below hb4
  clear hac3 hB3 hb4 hR3 h3
  obtain ⟨⟨g0, g1, g2, g3, g4, g5, g6, g7⟩, z⟩ := k8z hac4
  subst hN0
  have hfd := fun W => field_why 0 0 W
  have h40 := h4.take (k := 0) (by omega)
  rw [List.take_zero] at h40
  have hn8n : (8 : Int) ≤ (n : Int) := by omega
  clear HN HR
  have h5 : Bs w4 A 0 [] := h40
  have hc8 := Hc8.out
  go_wp2_with fail
  refine (open_ A 0 0 [] _ h5 (fun _ => ⟨rfl, rfl⟩) (Nat.le_refl _) (by omega) (by omega)).mono ?_
  have hoE : openE [] = 4 := by decide
  rw [hoE]
  rintro e w5 ⟨v5, rfl, hown5, hb5⟩
  have hac5 := hac4.keep hb5
  have hB5 : Below w.heap.size w w5 := hB4.trans (hb5.mono hB4.size)
  clear g0 g1 g2 g3 g4 g5 g6 g7 z hoE hfd
  obtain ⟨⟨g0, g1, g2, g3, g4, g5, g6, g7⟩, z⟩ := k8z hac5
  go_wp2
  refine bodyPost_ret (results_rec3 rfl rfl (blk_all hac5 _ _ _ _ _ _ _ _)) rfl ?_
  exact nxA_no HG.out HE.out rfl (below_all hB5 (Nat.le_refl _) _ _ _ _ _ _ _ _)
set_option maxRecDepth 100000 in
set_option maxHeartbeats 4000000 in
theorem next_sum (A : Option Addr) (n c : Nat) (xs : List UInt8) (h : Bs w A n xs) (hA : A = none → n = 0 ∧ c = 0) (hnc : n ≤ c) (hc : c ≤ 9223372036854775807) (hn : n ≤ 140737488351300) (h8 : 8 ≤ n) (hN : numAt xs ≤ 700) (hM : numAt xs + 8 ≤ n) (hc8 : ¬ c = 8) (hok : okSum ((xs.drop 8).take (numAt xs)) = false) :
    Calls Try.prog 23 #[.slice A n c] w fun e w' => NxA w w' e xs := by
  have hl := h.len
  have hE4 : decE ((xs.drop 8).take (numAt xs)) = 4 := by unfold decE; rw [hok]; rfl
  have HG := Lib.hid (goes_not (xs := xs) (.inr (.inr (.inr (by rw [hE4]; decide)))))
  have HE := Lib.hid (show failE xs = 4 by unfold failE; rw [if_neg (by omega), if_neg (by omega), if_neg (by omega), hE4])
  clear hE4
  obtain ⟨N, hNN⟩ : ∃ N, numAt xs = N := ⟨_, rfl⟩
  rw [hNN] at hN hM hok
  have HN := Lib.hid hNN
  have HR := Lib.hid (rInt_first_ok (xs := xs) (by omega) (by rw [hNN]; exact hN))
  rw [hNN] at HR
  clear hNN
  have hac := Blk.new w 39 ra0 rfl
  obtain ⟨w1, hw1⟩ : ∃ w1, w.alloc (.cells ra0 39) = w1 := ⟨_, rfl⟩
  have hs1 : w1.heap.size = w.heap.size + 1 := by rw [← hw1]; simp
  have hb1 : Below w.heap.size w w1 := by rw [← hw1]; exact (Below.refl _ _).alloc (Nat.le_refl _) _
  rw [hw1] at hac
  have h1 := h.below hb1
  have ht1 := h1.take (k := 8) h8
  have hxl : (xs.take 8).length ≤ 140737488355328 := by rw [List.length_take]; omega
  have hmn : min (n : Int) 8 = 8 := by omega
  have hn8 : (8 : Int) ≤ (c : Int) := by omega
  have hn8' : 8 ≤ c := by omega
  have hA8 : A = none → 8 = 0 ∧ c = 0 := fun e => by have := hA e; omega
  have Hl := Lib.hid hl
  clear h hl
  go_enter Try.func23, Try.ntmps23
  go_wp2_with fail
  refine (pnew_ A 8 c (xs.take 8) _ ht1 hA8 hn8' hc (by omega)).mono ?_
  rintro e w2 ⟨br, rfl, hbr, hR0, hb2⟩
  have hac2 := hac.keep hb2
  have hB2 := below_step hb1 hb2 (Nat.le_refl _)
  have hs2 := hb2.size
  have h2 := h1.below hb2
  have hne2 : ∀ a : Addr, A = some a → ¬ a.block = br := fun a ha => by have := rd_block h1 a ha (by omega); omega
  clear hac hb1 hb2 h1 ht1 hw1
  go_wp2_with fail
  refine (int_ br (xs.take 8) ⟨0, 0, 0⟩ 700 _ hR0 hxl (by omega)).mono ?_
  rw [HR.out]
  rintro e w3 ⟨rfl, hR3, hg3⟩
  have hac3 := hac2.grown hg3 (fun e => by injection e with e; omega)
  have hB3 : Below w.heap.size w w3 := hB2.grown hg3 hB2.size (fun q hq => by injection hq with hq; omega)
  have h3 := h2.grown hg3 (fun a ha e => by injection e with e; exact absurd e (hne2 a ha))
  clear hac2 hB2 hg3 hR0 h2
  go_wp2_with fail
  refine (fault_ br (xs.take 8) ⟨8, 0, 0⟩ _ hR3).mono ?_
  rintro e w4 ⟨rfl, hb4⟩
  have hac4 := hac3.keep hb4
  have hB4 : Below w.heap.size w w4 := hB3.trans (hb4.mono hB3.size)
  have h4 := h3.below hb4
  clear hac3 hB3 hb4 hR3 h3
  obtain ⟨⟨g0, g1, g2, g3, g4, g5, g6, g7⟩, z⟩ := k8z hac4
  have hfd := fun W => field_why 0 0 W
  have ht : 8 + (N : Int) ≤ (n : Int) := by omega
  have ht2 : IntKind.i64.wrap (8 + (N : Int)) = 8 + (N : Int) := by rw [IntKind.wrap_i64]; omega
  have t0 : (0 : Int) ≤ 8 + (N : Int) := by omega
  have t1 : (8 : Int) ≤ 8 + (N : Int) := by omega
  have t4 : 8 + (N : Int) ≤ (c : Int) := by omega
  have t5 : 8 + N ≤ c := by omega
  obtain ⟨bb, oo, rfl, _⟩ := h4.at_ (k := 0) (by omega)
  have hx : Bs w4 (some ⟨bb, oo + 8, none⟩) N ((xs.drop 8).take N) := by
    have q := (h4.drop (k := 8) (cap := c) (by omega) hnc).take (k := N) (by omega)
    rw [if_neg hc8] at q
    simpa [add_plain] using q
  have hN8 : N ≤ c - 8 := by omega
  have hc88 : c - 8 ≤ 9223372036854775807 := by omega
  obtain ⟨x, hxx⟩ : ∃ x, (xs.drop 8).take N = x := ⟨_, rfl⟩
  rw [hxx] at hx hok
  have HX := Lib.hid hxx
  clear hxx h4 HR
  go_wp2_with fail
  refine (open_ (some ⟨bb, oo + 8, none⟩) N (c - 8) x _ hx (fun e => by cases e) hN8 hc88 (by omega)).mono ?_
  have hoE : openE x = 4 := by unfold openE; rw [hok]; rfl
  rw [hoE]
  rintro e w5 ⟨v5, rfl, hown5, hb5⟩
  have hac5 := hac4.keep hb5
  have hB5 : Below w.heap.size w w5 := hB4.trans (hb5.mono hB4.size)
  clear g0 g1 g2 g3 g4 g5 g6 g7 z hoE hfd hx
  obtain ⟨⟨g0, g1, g2, g3, g4, g5, g6, g7⟩, z⟩ := k8z hac5
  go_wp2
  refine bodyPost_ret (results_rec3 rfl rfl (blk_all hac5 _ _ _ _ _ _ _ _)) rfl ?_
  exact nxA_no HG.out HE.out rfl (below_all hB5 (Nat.le_refl _) _ _ _ _ _ _ _ _)
set_option maxRecDepth 100000 in
set_option maxHeartbeats 4000000 in
theorem next_form (A : Option Addr) (n c : Nat) (xs : List UInt8) (h : Bs w A n xs) (hA : A = none → n = 0 ∧ c = 0) (hnc : n ≤ c) (hc : c ≤ 9223372036854775807) (hn : n ≤ 140737488351300) (h8 : 8 ≤ n) (hN : numAt xs ≤ 700) (hM : numAt xs + 8 ≤ n) (hc8 : ¬ c = 8) (hok : okSum ((xs.drop 8).take (numAt xs)) = true) (hfo : ¬ FormR (((xs.drop 8).take (numAt xs)).take (((xs.drop 8).take (numAt xs)).length - 4))) :
    Calls Try.prog 23 #[.slice A n c] w fun e w' => NxA w w' e xs := by
  have hl := h.len
  have hE4 : decE ((xs.drop 8).take (numAt xs)) = 5 := by unfold decE; rw [hok, if_pos rfl, if_neg hfo]
  have HG := Lib.hid (goes_not (xs := xs) (.inr (.inr (.inr (by rw [hE4]; decide)))))
  have HE := Lib.hid (show failE xs = 5 by unfold failE; rw [if_neg (by omega), if_neg (by omega), if_neg (by omega), hE4])
  have Hfo := Lib.hid hfo
  clear hE4 hfo
  obtain ⟨N, hNN⟩ : ∃ N, numAt xs = N := ⟨_, rfl⟩
  rw [hNN] at hN hM hok Hfo
  have HN := Lib.hid hNN
  have HR := Lib.hid (rInt_first_ok (xs := xs) (by omega) (by rw [hNN]; exact hN))
  rw [hNN] at HR
  clear hNN
  have hac := Blk.new w 39 ra0 rfl
  obtain ⟨w1, hw1⟩ : ∃ w1, w.alloc (.cells ra0 39) = w1 := ⟨_, rfl⟩
  have hs1 : w1.heap.size = w.heap.size + 1 := by rw [← hw1]; simp
  have hb1 : Below w.heap.size w w1 := by rw [← hw1]; exact (Below.refl _ _).alloc (Nat.le_refl _) _
  rw [hw1] at hac
  have h1 := h.below hb1
  have ht1 := h1.take (k := 8) h8
  have hxl : (xs.take 8).length ≤ 140737488355328 := by rw [List.length_take]; omega
  have hmn : min (n : Int) 8 = 8 := by omega
  have hn8 : (8 : Int) ≤ (c : Int) := by omega
  have hn8' : 8 ≤ c := by omega
  have hA8 : A = none → 8 = 0 ∧ c = 0 := fun e => by have := hA e; omega
  have Hl := Lib.hid hl
  clear h hl
  go_enter Try.func23, Try.ntmps23
  go_wp2_with fail
  refine (pnew_ A 8 c (xs.take 8) _ ht1 hA8 hn8' hc (by omega)).mono ?_
  rintro e w2 ⟨br, rfl, hbr, hR0, hb2⟩
  have hac2 := hac.keep hb2
  have hB2 := below_step hb1 hb2 (Nat.le_refl _)
  have hs2 := hb2.size
  have h2 := h1.below hb2
  have hne2 : ∀ a : Addr, A = some a → ¬ a.block = br := fun a ha => by have := rd_block h1 a ha (by omega); omega
  clear hac hb1 hb2 h1 ht1 hw1
  go_wp2_with fail
  refine (int_ br (xs.take 8) ⟨0, 0, 0⟩ 700 _ hR0 hxl (by omega)).mono ?_
  rw [HR.out]
  rintro e w3 ⟨rfl, hR3, hg3⟩
  have hac3 := hac2.grown hg3 (fun e => by injection e with e; omega)
  have hB3 : Below w.heap.size w w3 := hB2.grown hg3 hB2.size (fun q hq => by injection hq with hq; omega)
  have h3 := h2.grown hg3 (fun a ha e => by injection e with e; exact absurd e (hne2 a ha))
  clear hac2 hB2 hg3 hR0 h2
  go_wp2_with fail
  refine (fault_ br (xs.take 8) ⟨8, 0, 0⟩ _ hR3).mono ?_
  rintro e w4 ⟨rfl, hb4⟩
  have hac4 := hac3.keep hb4
  have hB4 : Below w.heap.size w w4 := hB3.trans (hb4.mono hB3.size)
  have h4 := h3.below hb4
  clear hac3 hB3 hb4 hR3 h3
  obtain ⟨⟨g0, g1, g2, g3, g4, g5, g6, g7⟩, z⟩ := k8z hac4
  have hfd := fun W => field_why 0 0 W
  have ht : 8 + (N : Int) ≤ (n : Int) := by omega
  have ht2 : IntKind.i64.wrap (8 + (N : Int)) = 8 + (N : Int) := by rw [IntKind.wrap_i64]; omega
  have t0 : (0 : Int) ≤ 8 + (N : Int) := by omega
  have t1 : (8 : Int) ≤ 8 + (N : Int) := by omega
  have t4 : 8 + (N : Int) ≤ (c : Int) := by omega
  have t5 : 8 + N ≤ c := by omega
  obtain ⟨bb, oo, rfl, _⟩ := h4.at_ (k := 0) (by omega)
  have hx : Bs w4 (some ⟨bb, oo + 8, none⟩) N ((xs.drop 8).take N) := by
    have q := (h4.drop (k := 8) (cap := c) (by omega) hnc).take (k := N) (by omega)
    rw [if_neg hc8] at q
    simpa [add_plain] using q
  have hN8 : N ≤ c - 8 := by omega
  have hc88 : c - 8 ≤ 9223372036854775807 := by omega
  obtain ⟨x, hxx⟩ : ∃ x, (xs.drop 8).take N = x := ⟨_, rfl⟩
  rw [hxx] at hx hok Hfo
  have HX := Lib.hid hxx
  clear hxx h4 HR
  go_wp2_with fail
  refine (open_ (some ⟨bb, oo + 8, none⟩) N (c - 8) x _ hx (fun e => by cases e) hN8 hc88 (by omega)).mono ?_
  have hoE : openE x = 0 := by unfold openE; rw [hok]; rfl
  have hoL : openL x = x.take (x.length - 4) := by unfold openL; rw [hok]; rfl
  rw [hoE, hoL]
  rintro e w5 ⟨v5, rfl, hown5, hb5⟩
  have hac5 := hac4.keep hb5
  have hB5 : Below w.heap.size w w5 := hB4.trans (hb5.mono hB4.size)
  have hxl2 := hx.len
  obtain ⟨pl, hpl⟩ : ∃ pl, x.take (x.length - 4) = pl := ⟨_, rfl⟩
  have hpn : pl.length ≤ 1000 := by rw [← hpl, List.length_take]; omega
  rw [hpl] at hown5
  obtain ⟨pn, hpn2⟩ : ∃ pn, pl.length = pn := ⟨_, rfl⟩
  rw [hpn2] at hown5 hpn
  obtain ⟨A5, c5, rfl, hc5, hm5, ha5⟩ := own_form hown5
  unfold maxLen at hm5
  have hbs5 := bs_own hown5
  have HP := Lib.hid hpl
  clear g0 g1 g2 g3 g4 g5 g6 g7 z hoE hoL hfd hx hxl2 hpl hpn2 hown5
  go_wp2_with fail
  refine (decode_ _ A5 pn c5 pl hbs5 ha5 hc5 hm5 (by omega)).mono ?_
  have hokD : okD pl = false := by rw [(okD_is pl).1, decide_eq_false]; rw [← HP.out]; exact Hfo.out
  rintro e w6 ⟨X6, c6, rfl, hown6, hb6⟩
  rw [hokD]
  have hac6 := hac5.keep hb6
  have hB6 : Below w.heap.size w w6 := hB5.trans (hb6.mono hB5.size)
  have hac7 := hac6.alloc (.cells (ra (dr pl) (.slice X6 (cnt pl) c6)) 39)
  have hB7 := hB6.alloc hB6.size (.cells (ra (dr pl) (.slice X6 (cnt pl) c6)) 39)
  obtain ⟨⟨g0, g1, g2, g3, g4, g5, g6, g7⟩, z⟩ := k8z hac7
  clear hac4 hac5 hac6 hown6 hb6 hb5 hokD
  obtain ⟨rr, hrr⟩ : ∃ rr, dr pl = rr := ⟨_, rfl⟩
  obtain ⟨nn, hnn⟩ : ∃ nn, cnt pl = nn := ⟨_, rfl⟩
  rw [hrr, hnn] at hac7 hB7 g0 g1 g2 g3 g4 g5 g6 g7 z ⊢
  clear hrr hnn
  go_wp2
  refine bodyPost_ret (results_rec3 rfl rfl (blk_all hac7 _ _ _ _ _ _ _ _)) rfl ?_
  exact nxA_no HG.out HE.out rfl (below_all hB7 (Nat.le_refl _) _ _ _ _ _ _ _ _)
set_option maxRecDepth 100000 in
set_option maxHeartbeats 4000000 in
theorem next_rec (A : Option Addr) (n c : Nat) (xs : List UInt8) (h : Bs w A n xs) (hA : A = none → n = 0 ∧ c = 0) (hnc : n ≤ c) (hc : c ≤ 9223372036854775807) (hn : n ≤ 140737488351300) (h8 : 8 ≤ n) (hN : numAt xs ≤ 700) (hM : numAt xs + 8 ≤ n) (hc8 : ¬ c = 8) (hok : okSum ((xs.drop 8).take (numAt xs)) = true) (hfo : FormR (((xs.drop 8).take (numAt xs)).take (((xs.drop 8).take (numAt xs)).length - 4))) :
    Calls Try.prog 23 #[.slice A n c] w fun e w' => NxA w w' e xs := by
  have hl := h.len
  have hE4 : decE ((xs.drop 8).take (numAt xs)) = 0 := by unfold decE; rw [hok, if_pos rfl, if_pos hfo]
  have HG := Lib.hid ((goes_iff xs).2 ⟨by omega, hN, by omega, hE4⟩)
  have HE := Lib.hid (show failE xs = 0 by unfold failE; rw [if_neg (by omega), if_neg (by omega), if_neg (by omega), hE4])
  have HF := Lib.hid (show firstR xs = recOf (((xs.drop 8).take (numAt xs)).take (((xs.drop 8).take (numAt xs)).length - 4)) from rfl)
  have Hfo := Lib.hid hfo
  clear hE4 hfo
  obtain ⟨N, hNN⟩ : ∃ N, numAt xs = N := ⟨_, rfl⟩
  rw [hNN] at hN hM hok Hfo HF
  have HN := Lib.hid hNN
  have HR := Lib.hid (rInt_first_ok (xs := xs) (by omega) (by rw [hNN]; exact hN))
  rw [hNN] at HR
  clear hNN
  have hac := Blk.new w 39 ra0 rfl
  obtain ⟨w1, hw1⟩ : ∃ w1, w.alloc (.cells ra0 39) = w1 := ⟨_, rfl⟩
  have hs1 : w1.heap.size = w.heap.size + 1 := by rw [← hw1]; simp
  have hb1 : Below w.heap.size w w1 := by rw [← hw1]; exact (Below.refl _ _).alloc (Nat.le_refl _) _
  rw [hw1] at hac
  have h1 := h.below hb1
  have ht1 := h1.take (k := 8) h8
  have hxl : (xs.take 8).length ≤ 140737488355328 := by rw [List.length_take]; omega
  have hmn : min (n : Int) 8 = 8 := by omega
  have hn8 : (8 : Int) ≤ (c : Int) := by omega
  have hn8' : 8 ≤ c := by omega
  have hA8 : A = none → 8 = 0 ∧ c = 0 := fun e => by have := hA e; omega
  have Hl := Lib.hid hl
  clear h hl
  go_enter Try.func23, Try.ntmps23
  go_wp2_with fail
  refine (pnew_ A 8 c (xs.take 8) _ ht1 hA8 hn8' hc (by omega)).mono ?_
  rintro e w2 ⟨br, rfl, hbr, hR0, hb2⟩
  have hac2 := hac.keep hb2
  have hB2 := below_step hb1 hb2 (Nat.le_refl _)
  have hs2 := hb2.size
  have h2 := h1.below hb2
  have hne2 : ∀ a : Addr, A = some a → ¬ a.block = br := fun a ha => by have := rd_block h1 a ha (by omega); omega
  clear hac hb1 hb2 h1 ht1 hw1
  go_wp2_with fail
  refine (int_ br (xs.take 8) ⟨0, 0, 0⟩ 700 _ hR0 hxl (by omega)).mono ?_
  rw [HR.out]
  rintro e w3 ⟨rfl, hR3, hg3⟩
  have hac3 := hac2.grown hg3 (fun e => by injection e with e; omega)
  have hB3 : Below w.heap.size w w3 := hB2.grown hg3 hB2.size (fun q hq => by injection hq with hq; omega)
  have h3 := h2.grown hg3 (fun a ha e => by injection e with e; exact absurd e (hne2 a ha))
  clear hac2 hB2 hg3 hR0 h2
  go_wp2_with fail
  refine (fault_ br (xs.take 8) ⟨8, 0, 0⟩ _ hR3).mono ?_
  rintro e w4 ⟨rfl, hb4⟩
  have hac4 := hac3.keep hb4
  have hB4 : Below w.heap.size w w4 := hB3.trans (hb4.mono hB3.size)
  have h4 := h3.below hb4
  clear hac3 hB3 hb4 hR3 h3
  obtain ⟨⟨g0, g1, g2, g3, g4, g5, g6, g7⟩, z⟩ := k8z hac4
  have hfd := fun W => field_why 0 0 W
  have ht : 8 + (N : Int) ≤ (n : Int) := by omega
  have ht2 : IntKind.i64.wrap (8 + (N : Int)) = 8 + (N : Int) := by rw [IntKind.wrap_i64]; omega
  have t0 : (0 : Int) ≤ 8 + (N : Int) := by omega
  have t1 : (8 : Int) ≤ 8 + (N : Int) := by omega
  have t4 : 8 + (N : Int) ≤ (c : Int) := by omega
  have t5 : 8 + N ≤ c := by omega
  obtain ⟨bb, oo, rfl, _⟩ := h4.at_ (k := 0) (by omega)
  have hx : Bs w4 (some ⟨bb, oo + 8, none⟩) N ((xs.drop 8).take N) := by
    have q := (h4.drop (k := 8) (cap := c) (by omega) hnc).take (k := N) (by omega)
    rw [if_neg hc8] at q
    simpa [add_plain] using q
  have hN8 : N ≤ c - 8 := by omega
  have hc88 : c - 8 ≤ 9223372036854775807 := by omega
  obtain ⟨x, hxx⟩ : ∃ x, (xs.drop 8).take N = x := ⟨_, rfl⟩
  rw [hxx] at hx hok Hfo HF
  have HX := Lib.hid hxx
  clear hxx h4 HR
  go_wp2_with fail
  refine (open_ (some ⟨bb, oo + 8, none⟩) N (c - 8) x _ hx (fun e => by cases e) hN8 hc88 (by omega)).mono ?_
  have hoE : openE x = 0 := by unfold openE; rw [hok]; rfl
  have hoL : openL x = x.take (x.length - 4) := by unfold openL; rw [hok]; rfl
  rw [hoE, hoL]
  rintro e w5 ⟨v5, rfl, hown5, hb5⟩
  have hac5 := hac4.keep hb5
  have hB5 : Below w.heap.size w w5 := hB4.trans (hb5.mono hB4.size)
  have hxl2 := hx.len
  obtain ⟨pl, hpl⟩ : ∃ pl, x.take (x.length - 4) = pl := ⟨_, rfl⟩
  have hpn : pl.length ≤ 1000 := by rw [← hpl, List.length_take]; omega
  rw [hpl] at hown5
  obtain ⟨pn, hpn2⟩ : ∃ pn, pl.length = pn := ⟨_, rfl⟩
  rw [hpn2] at hown5 hpn
  obtain ⟨A5, c5, rfl, hc5, hm5, ha5⟩ := own_form hown5
  unfold maxLen at hm5
  have hbs5 := bs_own hown5
  have HP := Lib.hid hpl
  clear g0 g1 g2 g3 g4 g5 g6 g7 z hoE hoL hfd hx hxl2 hpl hpn2 hown5
  go_wp2_with fail
  refine (decode_ _ A5 pn c5 pl hbs5 ha5 hc5 hm5 (by omega)).mono ?_
  have hokD : okD pl = true := by rw [(okD_is pl).1, decide_eq_true]; rw [← HP.out]; exact Hfo.out
  have hdr := (okD_is pl).2 hokD
  rw [HP.out, ← hdr] at HF
  rintro e w6 ⟨X6, c6, rfl, hown6, hb6⟩
  rw [hokD]
  have hac6 := hac5.keep hb6
  have hB6 : Below w.heap.size w w6 := hB5.trans (hb6.mono hB5.size)
  have hcl : cnt pl = (dr pl).d.length := (dr_length pl).symm
  rw [hcl] at hown6 ⊢
  clear hcl hdr hokD
  obtain ⟨rr, hrr⟩ : ∃ rr, dr pl = rr := ⟨_, rfl⟩
  rw [hrr] at hown6 HF ⊢
  have hg5 := hac5.lt
  obtain ⟨nn, hnn⟩ : ∃ nn, rr.d.length = nn := ⟨_, rfl⟩
  rw [hnn] at hown6 ⊢
  have Hnn := Lib.hid hnn
  clear hrr hnn
  have hac7 := hac6.alloc (.cells (ra rr (.slice X6 nn c6)) 39)
  have hba : Below w6.heap.size w6 (w6.alloc (.cells (ra rr (.slice X6 nn c6)) 39)) := (Below.refl _ _).alloc (Nat.le_refl _) _
  have hB7 := hB6.alloc hB6.size (.cells (ra rr (.slice X6 nn c6)) 39)
  have hown7 := own_keep hown6 hba
  have hnew := Blk.new w6 39 (ra rr (.slice X6 nn c6)) rfl
  obtain ⟨k0, k1, k2, k3, k4, k5, k6, k7⟩ := k8 hnew
  obtain ⟨⟨g0, g1, g2, g3, g4, g5, g6, g7⟩, z⟩ := k8z hac7
  clear hac4 hac5 hac6 hown6 hb6 hb5 hnew hba
  go_wp2
  refine bodyPost_ret (results_rec3 rfl rfl (blk_all hac7 _ _ _ _ _ _ _ _)) rfl ?_
  have hw : nxR xs = rr := by unfold nxR; rw [HG.out, if_pos rfl, HF.out]
  have hw2 : (nxN xs : Int) = 8 + (N : Int) := by unfold nxN; rw [HG.out, if_pos rfl, HN.out]; omega
  have hw3 : nxE xs = 0 := HE.out
  unfold NxA
  rw [hw, hw2, hw3, Hnn.out]
  refine ⟨X6, c6, rfl, ?_, below_all hB7 (Nat.le_refl _) _ _ _ _ _ _ _ _⟩
  exact (own_grown hown7 (grown_all _ _ _ _ _ _ _ _ _ _) (fun k hk e => by injection e with e; have := (hown7.lt k hk).1; omega)).mono hB5.size
end
end Str
end Go.Proofs.Ytofoecpnphoohaa
