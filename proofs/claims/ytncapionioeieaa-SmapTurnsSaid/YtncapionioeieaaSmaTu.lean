/- Proves SmapTurns of layer 13 (smap), for every input, with no condition: the piece of any block, and any map split, merged or moved, are the document's, or refused. -/
import Derived.Test.YtncapionioeieaaSmaAr
import Derived.Test.YtncapionioeieaaSmaG
import Derived.Test.YtncapionioeieaaSmaH
import Derived.Test.YtncapionioeieaaSmaKm
import Derived.Test.YtncapionioeieaaSmaO
set_option linter.all false
namespace Go.Proofs.Ytncapionioeieaa
open Go.ChangeShapes Go.WideShapes Go.ChangeAt Go.RowKit
namespace Sma

section
variable (w : World)
set_option maxRecDepth 100000 in
set_option maxHeartbeats 8000000 in
theorem turns_walk (m : Mp) (A : Option Addr) (k c : Nat) (h : Mr w m A k c) (a nd : Int) (ha : I64 a) (hnd : I64 nd) : Calls Try.prog 4 #[mv m A k c, .int .i64 a, .int .i64 nd] w fun e w' => e = .returned (.bool true) ∧ Below w.heap.size w w' := by
  have hbx := (Below.refl w.heap.size w).alloc (Nat.le_refl _) (rmo m A k c)
  have hm1 := h.below hbx
  have hbk := Blk.new w 25 #[.int .i64 m.v, .int .i64 m.n, .slice A k c] rfl
  simp only [mv]
  clear h
  obtain ⟨r0, hr0⟩ : ∃ r, findA m a = r := ⟨_, rfl⟩
  obtain ⟨r1, hr1⟩ : ∃ r, splitA m a = r := ⟨_, rfl⟩
  obtain ⟨r2, hr2⟩ : ∃ r, mergeA m a = r := ⟨_, rfl⟩
  obtain ⟨r3, hr3⟩ : ∃ r, moveA m a nd = r := ⟨_, rfl⟩
  have Hr0 := Lib.hid hr0
  have Hr1 := Lib.hid hr1
  have Hr2 := Lib.hid hr2
  have Hr3 := Lib.hid hr3
  clear hr0 hr1 hr2 hr3
  go_enter Try.func4, Try.ntmps4
  go_wp2_with fail
  generalize (w.alloc (rmo m A k c)) = v0 at *
  refine (theirs_ _ m A k c).mono ?_
  rintro e y1 ⟨rfl, hb⟩
  replace hm1 := hm1.below hb
  replace hbk := hbk.keep hb
  replace hbx := below_step hbx hb (Nat.le_refl _)
  clear hb
  simp only [mv]
  obtain ⟨d0, d1, d2, -, -, -⟩ := cells3 hbk
  go_wp2_with fail
  clear d0 d1 d2
  refine (find_ _ m A k c hm1 a ha).mono ?_
  rw [Hr0.out]
  rintro e y2 ⟨rfl, hb⟩
  replace hm1 := hm1.below hb
  replace hbk := hbk.keep hb
  replace hbx := below_step hbx hb (Nat.le_refl _)
  clear hb
  simp only
  obtain ⟨d0, d1, d2, -, -, -⟩ := cells3 hbk
  go_wp2_with fail
  clear d0 d1 d2
  refine (rfind_ _ m A k c hm1 a ha).mono ?_
  rw [Hr0.out]
  rintro e y3 ⟨rfl, hb⟩
  replace hm1 := hm1.below hb
  replace hbk := hbk.keep hb
  replace hbx := below_step hbx hb (Nat.le_refl _)
  clear hb
  simp only
  obtain ⟨d0, d1, d2, -, -, -⟩ := cells3 hbk
  go_wp2_with fail
  clear d0 d1 d2
  refine (theirs_ _ m A k c).mono ?_
  rintro e y4 ⟨rfl, hb⟩
  replace hm1 := hm1.below hb
  replace hbk := hbk.keep hb
  replace hbx := below_step hbx hb (Nat.le_refl _)
  clear hb
  simp only [mv]
  obtain ⟨d0, d1, d2, -, -, -⟩ := cells3 hbk
  go_wp2_with fail
  clear d0 d1 d2
  refine (split_ _ m A k c hm1 a ha).mono ?_
  rw [Hr1.out]
  rintro e y5 ⟨A1, k1, c1, rfl, g1, hb⟩
  have hal := (Below.refl y5.heap.size y5).alloc (Nat.le_refl _) (.cells #[.int .i64 r1.1.v, .int .i64 r1.1.n, .slice A1 k1 c1] 26)
  have hs1 := Blk.new y5 26 #[.int .i64 r1.1.v, .int .i64 r1.1.n, .slice A1 k1 c1] rfl
  replace hm1 := (hm1.below hb).below hal
  replace hbk := (hbk.keep hb).keep hal
  replace hbx := below_step (below_step hbx hb (Nat.le_refl _)) hal (Nat.le_refl _)
  replace g1 := g1.mr.below hal
  clear hb hal
  simp only [mv]
  obtain ⟨d0, d1, d2, -, -, -⟩ := cells3 hbk
  go_wp2_with fail
  clear d0 d1 d2
  generalize hw1 : y5.heap.size = b1 at *
  generalize (y5.alloc (.cells #[.int .i64 r1.1.v, .int .i64 r1.1.n, .slice A1 k1 c1] 26)) = x1 at *
  clear hw1
  refine (rsplit_ _ m A k c hm1 a ha).mono ?_
  rw [Hr1.out]
  rintro e y6 ⟨A2, k2, c2, rfl, g2, hb⟩
  have hal := (Below.refl y6.heap.size y6).alloc (Nat.le_refl _) (.cells #[.int .i64 r1.1.v, .int .i64 r1.1.n, .slice A2 k2 c2] 25)
  have hs2 := Blk.new y6 25 #[.int .i64 r1.1.v, .int .i64 r1.1.n, .slice A2 k2 c2] rfl
  replace hm1 := (hm1.below hb).below hal
  replace hbk := (hbk.keep hb).keep hal
  replace hbx := below_step (below_step hbx hb (Nat.le_refl _)) hal (Nat.le_refl _)
  replace hs1 := (hs1.keep hb).keep hal
  replace g1 := (g1.below hb).below hal
  replace g2 := g2.below hal
  clear hb hal
  simp only [mv]
  obtain ⟨d0, d1, d2, -, -, -⟩ := cells3 hbk
  go_wp2_with fail
  clear d0 d1 d2
  generalize hw2 : y6.heap.size = b2 at *
  generalize (y6.alloc (.cells #[.int .i64 r1.1.v, .int .i64 r1.1.n, .slice A2 k2 c2] 25)) = x2 at *
  clear hw2
  refine (theirs_ _ m A k c).mono ?_
  rintro e y7 ⟨rfl, hb⟩
  replace hm1 := hm1.below hb
  replace hbk := hbk.keep hb
  replace hbx := below_step hbx hb (Nat.le_refl _)
  replace hs1 := hs1.keep hb
  replace g1 := g1.below hb
  replace hs2 := hs2.keep hb
  replace g2 := g2.below hb
  clear hb
  simp only [mv]
  obtain ⟨d0, d1, d2, -, -, -⟩ := cells3 hbk
  go_wp2_with fail
  clear d0 d1 d2
  refine (merge_ _ m A k c hm1 a ha).mono ?_
  rw [Hr2.out]
  rintro e y8 ⟨A3, k3, c3, rfl, g3, hb⟩
  have hal := (Below.refl y8.heap.size y8).alloc (Nat.le_refl _) (.cells #[.int .i64 r2.1.v, .int .i64 r2.1.n, .slice A3 k3 c3] 26)
  have hs3 := Blk.new y8 26 #[.int .i64 r2.1.v, .int .i64 r2.1.n, .slice A3 k3 c3] rfl
  replace hm1 := (hm1.below hb).below hal
  replace hbk := (hbk.keep hb).keep hal
  replace hbx := below_step (below_step hbx hb (Nat.le_refl _)) hal (Nat.le_refl _)
  replace hs1 := (hs1.keep hb).keep hal
  replace g1 := (g1.below hb).below hal
  replace hs2 := (hs2.keep hb).keep hal
  replace g2 := (g2.below hb).below hal
  replace g3 := g3.mr.below hal
  clear hb hal
  simp only [mv]
  obtain ⟨d0, d1, d2, -, -, -⟩ := cells3 hbk
  go_wp2_with fail
  clear d0 d1 d2
  generalize hw3 : y8.heap.size = b3 at *
  generalize (y8.alloc (.cells #[.int .i64 r2.1.v, .int .i64 r2.1.n, .slice A3 k3 c3] 26)) = x3 at *
  clear hw3
  refine (rmerge_ _ m A k c hm1 a ha).mono ?_
  rw [Hr2.out]
  rintro e y9 ⟨A4, k4, c4, rfl, g4, hb⟩
  have hal := (Below.refl y9.heap.size y9).alloc (Nat.le_refl _) (.cells #[.int .i64 r2.1.v, .int .i64 r2.1.n, .slice A4 k4 c4] 25)
  have hs4 := Blk.new y9 25 #[.int .i64 r2.1.v, .int .i64 r2.1.n, .slice A4 k4 c4] rfl
  replace hm1 := (hm1.below hb).below hal
  replace hbk := (hbk.keep hb).keep hal
  replace hbx := below_step (below_step hbx hb (Nat.le_refl _)) hal (Nat.le_refl _)
  replace hs1 := (hs1.keep hb).keep hal
  replace g1 := (g1.below hb).below hal
  replace hs2 := (hs2.keep hb).keep hal
  replace g2 := (g2.below hb).below hal
  replace hs3 := (hs3.keep hb).keep hal
  replace g3 := (g3.below hb).below hal
  replace g4 := g4.below hal
  clear hb hal
  simp only [mv]
  obtain ⟨d0, d1, d2, -, -, -⟩ := cells3 hbk
  go_wp2_with fail
  clear d0 d1 d2
  generalize hw4 : y9.heap.size = b4 at *
  generalize (y9.alloc (.cells #[.int .i64 r2.1.v, .int .i64 r2.1.n, .slice A4 k4 c4] 25)) = x4 at *
  clear hw4
  refine (theirs_ _ m A k c).mono ?_
  rintro e y10 ⟨rfl, hb⟩
  replace hm1 := hm1.below hb
  replace hbk := hbk.keep hb
  replace hbx := below_step hbx hb (Nat.le_refl _)
  replace hs1 := hs1.keep hb
  replace g1 := g1.below hb
  replace hs2 := hs2.keep hb
  replace g2 := g2.below hb
  replace hs3 := hs3.keep hb
  replace g3 := g3.below hb
  replace hs4 := hs4.keep hb
  replace g4 := g4.below hb
  clear hb
  simp only [mv]
  obtain ⟨d0, d1, d2, -, -, -⟩ := cells3 hbk
  go_wp2_with fail
  clear d0 d1 d2
  refine (move_ _ m A k c hm1 a nd ha hnd).mono ?_
  rw [Hr3.out]
  rintro e y11 ⟨A5, k5, c5, rfl, g5, hb⟩
  have hal := (Below.refl y11.heap.size y11).alloc (Nat.le_refl _) (.cells #[.int .i64 r3.1.v, .int .i64 r3.1.n, .slice A5 k5 c5] 26)
  have hs5 := Blk.new y11 26 #[.int .i64 r3.1.v, .int .i64 r3.1.n, .slice A5 k5 c5] rfl
  replace hm1 := (hm1.below hb).below hal
  replace hbk := (hbk.keep hb).keep hal
  replace hbx := below_step (below_step hbx hb (Nat.le_refl _)) hal (Nat.le_refl _)
  replace hs1 := (hs1.keep hb).keep hal
  replace g1 := (g1.below hb).below hal
  replace hs2 := (hs2.keep hb).keep hal
  replace g2 := (g2.below hb).below hal
  replace hs3 := (hs3.keep hb).keep hal
  replace g3 := (g3.below hb).below hal
  replace hs4 := (hs4.keep hb).keep hal
  replace g4 := (g4.below hb).below hal
  replace g5 := g5.mr.below hal
  clear hb hal
  simp only [mv]
  obtain ⟨d0, d1, d2, -, -, -⟩ := cells3 hbk
  go_wp2_with fail
  clear d0 d1 d2
  generalize hw5 : y11.heap.size = b5 at *
  generalize (y11.alloc (.cells #[.int .i64 r3.1.v, .int .i64 r3.1.n, .slice A5 k5 c5] 26)) = x5 at *
  clear hw5
  refine (rmove_ _ m A k c hm1 a nd ha hnd).mono ?_
  rw [Hr3.out]
  rintro e y12 ⟨A6, k6, c6, rfl, g6, hb⟩
  have hal := (Below.refl y12.heap.size y12).alloc (Nat.le_refl _) (.cells #[.int .i64 r3.1.v, .int .i64 r3.1.n, .slice A6 k6 c6] 25)
  have hs6 := Blk.new y12 25 #[.int .i64 r3.1.v, .int .i64 r3.1.n, .slice A6 k6 c6] rfl
  replace hm1 := (hm1.below hb).below hal
  replace hbk := (hbk.keep hb).keep hal
  replace hbx := below_step (below_step hbx hb (Nat.le_refl _)) hal (Nat.le_refl _)
  replace hs1 := (hs1.keep hb).keep hal
  replace g1 := (g1.below hb).below hal
  replace hs2 := (hs2.keep hb).keep hal
  replace g2 := (g2.below hb).below hal
  replace hs3 := (hs3.keep hb).keep hal
  replace g3 := (g3.below hb).below hal
  replace hs4 := (hs4.keep hb).keep hal
  replace g4 := (g4.below hb).below hal
  replace hs5 := (hs5.keep hb).keep hal
  replace g5 := (g5.below hb).below hal
  replace g6 := g6.below hal
  clear hb hal
  simp only [mv]
  obtain ⟨d0, d1, d2, -, -, -⟩ := cells3 hbk
  obtain ⟨m10, m11, m12, -, -, -⟩ := cells3 hs1
  obtain ⟨m20, m21, m22, -, -, -⟩ := cells3 hs2
  obtain ⟨m30, m31, m32, -, -, -⟩ := cells3 hs3
  obtain ⟨m40, m41, m42, -, -, -⟩ := cells3 hs4
  obtain ⟨m50, m51, m52, -, -, -⟩ := cells3 hs5
  obtain ⟨m60, m61, m62, -, -, -⟩ := cells3 hs6
  go_wp2_with fail
  clear d0 d1 d2
  clear m10 m11 m12
  clear m20 m21 m22
  clear m30 m31 m32
  clear m40 m41 m42
  clear m50 m51 m52
  clear m60 m61 m62
  generalize hw6 : y12.heap.size = b6 at *
  generalize (y12.alloc (.cells #[.int .i64 r3.1.v, .int .i64 r3.1.n, .slice A6 k6 c6] 25)) = x6 at *
  clear hw6
  obtain ⟨m10, m11, m12, -, -, -⟩ := cells3 hs1
  have t1 : (x6.cell? ⟨b1, 0, none⟩ = some (.int .i64 r1.1.v) ∧ x6.cell? ⟨b1, 1, none⟩ = some (.int .i64 r1.1.n) ∧ x6.cell? ⟨b1, 2, none⟩ = some (.slice A1 k1 c1)) := ⟨m10, m11, m12⟩
  clear m10 m11 m12
  obtain ⟨m20, m21, m22, -, -, -⟩ := cells3 hs2
  have t2 : (x6.cell? ⟨b2, 0, none⟩ = some (.int .i64 r1.1.v) ∧ x6.cell? ⟨b2, 1, none⟩ = some (.int .i64 r1.1.n) ∧ x6.cell? ⟨b2, 2, none⟩ = some (.slice A2 k2 c2)) := ⟨m20, m21, m22⟩
  clear m20 m21 m22
  obtain ⟨m30, m31, m32, -, -, -⟩ := cells3 hs3
  have t3 : (x6.cell? ⟨b3, 0, none⟩ = some (.int .i64 r2.1.v) ∧ x6.cell? ⟨b3, 1, none⟩ = some (.int .i64 r2.1.n) ∧ x6.cell? ⟨b3, 2, none⟩ = some (.slice A3 k3 c3)) := ⟨m30, m31, m32⟩
  clear m30 m31 m32
  obtain ⟨m40, m41, m42, -, -, -⟩ := cells3 hs4
  have t4 : (x6.cell? ⟨b4, 0, none⟩ = some (.int .i64 r2.1.v) ∧ x6.cell? ⟨b4, 1, none⟩ = some (.int .i64 r2.1.n) ∧ x6.cell? ⟨b4, 2, none⟩ = some (.slice A4 k4 c4)) := ⟨m40, m41, m42⟩
  clear m40 m41 m42
  obtain ⟨m50, m51, m52, -, -, -⟩ := cells3 hs5
  have t5 : (x6.cell? ⟨b5, 0, none⟩ = some (.int .i64 r3.1.v) ∧ x6.cell? ⟨b5, 1, none⟩ = some (.int .i64 r3.1.n) ∧ x6.cell? ⟨b5, 2, none⟩ = some (.slice A5 k5 c5)) := ⟨m50, m51, m52⟩
  clear m50 m51 m52
  obtain ⟨m60, m61, m62, -, -, -⟩ := cells3 hs6
  have t6 : (x6.cell? ⟨b6, 0, none⟩ = some (.int .i64 r3.1.v) ∧ x6.cell? ⟨b6, 1, none⟩ = some (.int .i64 r3.1.n) ∧ x6.cell? ⟨b6, 2, none⟩ = some (.slice A6 k6 c6)) := ⟨m60, m61, m62⟩
  clear m60 m61 m62
  clear hs1 hs2 hs3 hs4 hs5 hs6
  have hz0 := below_drew0 x6
  go_region_held3 (fun w' => (w'.cell? ⟨b1, 0, none⟩ = some (.int .i64 r1.1.v) ∧ w'.cell? ⟨b1, 1, none⟩ = some (.int .i64 r1.1.n) ∧ w'.cell? ⟨b1, 2, none⟩ = some (.slice A1 k1 c1)) ∧ (w'.cell? ⟨b2, 0, none⟩ = some (.int .i64 r1.1.v) ∧ w'.cell? ⟨b2, 1, none⟩ = some (.int .i64 r1.1.n) ∧ w'.cell? ⟨b2, 2, none⟩ = some (.slice A2 k2 c2)) ∧ (w'.cell? ⟨b3, 0, none⟩ = some (.int .i64 r2.1.v) ∧ w'.cell? ⟨b3, 1, none⟩ = some (.int .i64 r2.1.n) ∧ w'.cell? ⟨b3, 2, none⟩ = some (.slice A3 k3 c3)) ∧ (w'.cell? ⟨b4, 0, none⟩ = some (.int .i64 r2.1.v) ∧ w'.cell? ⟨b4, 1, none⟩ = some (.int .i64 r2.1.n) ∧ w'.cell? ⟨b4, 2, none⟩ = some (.slice A4 k4 c4)) ∧ (w'.cell? ⟨b5, 0, none⟩ = some (.int .i64 r3.1.v) ∧ w'.cell? ⟨b5, 1, none⟩ = some (.int .i64 r3.1.n) ∧ w'.cell? ⟨b5, 2, none⟩ = some (.slice A5 k5 c5)) ∧ (w'.cell? ⟨b6, 0, none⟩ = some (.int .i64 r3.1.v) ∧ w'.cell? ⟨b6, 1, none⟩ = some (.int .i64 r3.1.n) ∧ w'.cell? ⟨b6, 2, none⟩ = some (.slice A6 k6 c6)))
    (first | exact ⟨t1, t2, t3, t4, t5, t6⟩ | exact TA | exact TZ3 | exact TO3 | exact TZ2 | exact TO2 | exact TZ1 | exact TO1 | go_keep)
    (first
     | (go_at_call 12
        have hprev := ho3
        refine (rsame_ _ r3.1 r3.1 A5 A6 k5 k6 c5 c6 (g5.below ho3) (g6.below ho3)).mono ?_
        rw [sameM_refl]
        rintro e qq3 ⟨rfl, hq⟩
        have hz3 : Below x6.heap.size x6 qq3 := below_step ho3 hq (Nat.le_refl _)
        have TZ3 : (qq3.cell? ⟨b1, 0, none⟩ = some (.int .i64 r1.1.v) ∧ qq3.cell? ⟨b1, 1, none⟩ = some (.int .i64 r1.1.n) ∧ qq3.cell? ⟨b1, 2, none⟩ = some (.slice A1 k1 c1)) ∧ (qq3.cell? ⟨b2, 0, none⟩ = some (.int .i64 r1.1.v) ∧ qq3.cell? ⟨b2, 1, none⟩ = some (.int .i64 r1.1.n) ∧ qq3.cell? ⟨b2, 2, none⟩ = some (.slice A2 k2 c2)) ∧ (qq3.cell? ⟨b3, 0, none⟩ = some (.int .i64 r2.1.v) ∧ qq3.cell? ⟨b3, 1, none⟩ = some (.int .i64 r2.1.n) ∧ qq3.cell? ⟨b3, 2, none⟩ = some (.slice A3 k3 c3)) ∧ (qq3.cell? ⟨b4, 0, none⟩ = some (.int .i64 r2.1.v) ∧ qq3.cell? ⟨b4, 1, none⟩ = some (.int .i64 r2.1.n) ∧ qq3.cell? ⟨b4, 2, none⟩ = some (.slice A4 k4 c4)) ∧ (qq3.cell? ⟨b5, 0, none⟩ = some (.int .i64 r3.1.v) ∧ qq3.cell? ⟨b5, 1, none⟩ = some (.int .i64 r3.1.n) ∧ qq3.cell? ⟨b5, 2, none⟩ = some (.slice A5 k5 c5)) ∧ (qq3.cell? ⟨b6, 0, none⟩ = some (.int .i64 r3.1.v) ∧ qq3.cell? ⟨b6, 1, none⟩ = some (.int .i64 r3.1.n) ∧ qq3.cell? ⟨b6, 2, none⟩ = some (.slice A6 k6 c6)) := ⟨cells3_keep t1 hz3, cells3_keep t2 hz3, cells3_keep t3 hz3, cells3_keep t4 hz3, cells3_keep t5 hz3, cells3_keep t6 hz3⟩
        clear hq hprev)
     | (go_at_call 13
        have hprev := hz2
        refine (ours_ _ r3.1 A5 k5 c5).mono ?_
        rintro e pp3 ⟨rfl, hq⟩
        have ho3 : Below x6.heap.size x6 pp3 := below_step hz2 hq (Nat.le_refl _)
        have TO3 : (pp3.cell? ⟨b1, 0, none⟩ = some (.int .i64 r1.1.v) ∧ pp3.cell? ⟨b1, 1, none⟩ = some (.int .i64 r1.1.n) ∧ pp3.cell? ⟨b1, 2, none⟩ = some (.slice A1 k1 c1)) ∧ (pp3.cell? ⟨b2, 0, none⟩ = some (.int .i64 r1.1.v) ∧ pp3.cell? ⟨b2, 1, none⟩ = some (.int .i64 r1.1.n) ∧ pp3.cell? ⟨b2, 2, none⟩ = some (.slice A2 k2 c2)) ∧ (pp3.cell? ⟨b3, 0, none⟩ = some (.int .i64 r2.1.v) ∧ pp3.cell? ⟨b3, 1, none⟩ = some (.int .i64 r2.1.n) ∧ pp3.cell? ⟨b3, 2, none⟩ = some (.slice A3 k3 c3)) ∧ (pp3.cell? ⟨b4, 0, none⟩ = some (.int .i64 r2.1.v) ∧ pp3.cell? ⟨b4, 1, none⟩ = some (.int .i64 r2.1.n) ∧ pp3.cell? ⟨b4, 2, none⟩ = some (.slice A4 k4 c4)) ∧ (pp3.cell? ⟨b5, 0, none⟩ = some (.int .i64 r3.1.v) ∧ pp3.cell? ⟨b5, 1, none⟩ = some (.int .i64 r3.1.n) ∧ pp3.cell? ⟨b5, 2, none⟩ = some (.slice A5 k5 c5)) ∧ (pp3.cell? ⟨b6, 0, none⟩ = some (.int .i64 r3.1.v) ∧ pp3.cell? ⟨b6, 1, none⟩ = some (.int .i64 r3.1.n) ∧ pp3.cell? ⟨b6, 2, none⟩ = some (.slice A6 k6 c6)) := ⟨cells3_keep t1 ho3, cells3_keep t2 ho3, cells3_keep t3 ho3, cells3_keep t4 ho3, cells3_keep t5 ho3, cells3_keep t6 ho3⟩
        simp only [mv]
        clear hq hprev)
     | (go_at_call 12
        have hprev := ho2
        refine (rsame_ _ r2.1 r2.1 A3 A4 k3 k4 c3 c4 (g3.below ho2) (g4.below ho2)).mono ?_
        rw [sameM_refl]
        rintro e qq2 ⟨rfl, hq⟩
        have hz2 : Below x6.heap.size x6 qq2 := below_step ho2 hq (Nat.le_refl _)
        have TZ2 : (qq2.cell? ⟨b1, 0, none⟩ = some (.int .i64 r1.1.v) ∧ qq2.cell? ⟨b1, 1, none⟩ = some (.int .i64 r1.1.n) ∧ qq2.cell? ⟨b1, 2, none⟩ = some (.slice A1 k1 c1)) ∧ (qq2.cell? ⟨b2, 0, none⟩ = some (.int .i64 r1.1.v) ∧ qq2.cell? ⟨b2, 1, none⟩ = some (.int .i64 r1.1.n) ∧ qq2.cell? ⟨b2, 2, none⟩ = some (.slice A2 k2 c2)) ∧ (qq2.cell? ⟨b3, 0, none⟩ = some (.int .i64 r2.1.v) ∧ qq2.cell? ⟨b3, 1, none⟩ = some (.int .i64 r2.1.n) ∧ qq2.cell? ⟨b3, 2, none⟩ = some (.slice A3 k3 c3)) ∧ (qq2.cell? ⟨b4, 0, none⟩ = some (.int .i64 r2.1.v) ∧ qq2.cell? ⟨b4, 1, none⟩ = some (.int .i64 r2.1.n) ∧ qq2.cell? ⟨b4, 2, none⟩ = some (.slice A4 k4 c4)) ∧ (qq2.cell? ⟨b5, 0, none⟩ = some (.int .i64 r3.1.v) ∧ qq2.cell? ⟨b5, 1, none⟩ = some (.int .i64 r3.1.n) ∧ qq2.cell? ⟨b5, 2, none⟩ = some (.slice A5 k5 c5)) ∧ (qq2.cell? ⟨b6, 0, none⟩ = some (.int .i64 r3.1.v) ∧ qq2.cell? ⟨b6, 1, none⟩ = some (.int .i64 r3.1.n) ∧ qq2.cell? ⟨b6, 2, none⟩ = some (.slice A6 k6 c6)) := ⟨cells3_keep t1 hz2, cells3_keep t2 hz2, cells3_keep t3 hz2, cells3_keep t4 hz2, cells3_keep t5 hz2, cells3_keep t6 hz2⟩
        clear hq hprev)
     | (go_at_call 13
        have hprev := hz1
        refine (ours_ _ r2.1 A3 k3 c3).mono ?_
        rintro e pp2 ⟨rfl, hq⟩
        have ho2 : Below x6.heap.size x6 pp2 := below_step hz1 hq (Nat.le_refl _)
        have TO2 : (pp2.cell? ⟨b1, 0, none⟩ = some (.int .i64 r1.1.v) ∧ pp2.cell? ⟨b1, 1, none⟩ = some (.int .i64 r1.1.n) ∧ pp2.cell? ⟨b1, 2, none⟩ = some (.slice A1 k1 c1)) ∧ (pp2.cell? ⟨b2, 0, none⟩ = some (.int .i64 r1.1.v) ∧ pp2.cell? ⟨b2, 1, none⟩ = some (.int .i64 r1.1.n) ∧ pp2.cell? ⟨b2, 2, none⟩ = some (.slice A2 k2 c2)) ∧ (pp2.cell? ⟨b3, 0, none⟩ = some (.int .i64 r2.1.v) ∧ pp2.cell? ⟨b3, 1, none⟩ = some (.int .i64 r2.1.n) ∧ pp2.cell? ⟨b3, 2, none⟩ = some (.slice A3 k3 c3)) ∧ (pp2.cell? ⟨b4, 0, none⟩ = some (.int .i64 r2.1.v) ∧ pp2.cell? ⟨b4, 1, none⟩ = some (.int .i64 r2.1.n) ∧ pp2.cell? ⟨b4, 2, none⟩ = some (.slice A4 k4 c4)) ∧ (pp2.cell? ⟨b5, 0, none⟩ = some (.int .i64 r3.1.v) ∧ pp2.cell? ⟨b5, 1, none⟩ = some (.int .i64 r3.1.n) ∧ pp2.cell? ⟨b5, 2, none⟩ = some (.slice A5 k5 c5)) ∧ (pp2.cell? ⟨b6, 0, none⟩ = some (.int .i64 r3.1.v) ∧ pp2.cell? ⟨b6, 1, none⟩ = some (.int .i64 r3.1.n) ∧ pp2.cell? ⟨b6, 2, none⟩ = some (.slice A6 k6 c6)) := ⟨cells3_keep t1 ho2, cells3_keep t2 ho2, cells3_keep t3 ho2, cells3_keep t4 ho2, cells3_keep t5 ho2, cells3_keep t6 ho2⟩
        simp only [mv]
        clear hq hprev)
     | (go_at_call 12
        have hprev := ho1
        refine (rsame_ _ r1.1 r1.1 A1 A2 k1 k2 c1 c2 (g1.below ho1) (g2.below ho1)).mono ?_
        rw [sameM_refl]
        rintro e qq1 ⟨rfl, hq⟩
        have hz1 : Below x6.heap.size x6 qq1 := below_step ho1 hq (Nat.le_refl _)
        have TZ1 : (qq1.cell? ⟨b1, 0, none⟩ = some (.int .i64 r1.1.v) ∧ qq1.cell? ⟨b1, 1, none⟩ = some (.int .i64 r1.1.n) ∧ qq1.cell? ⟨b1, 2, none⟩ = some (.slice A1 k1 c1)) ∧ (qq1.cell? ⟨b2, 0, none⟩ = some (.int .i64 r1.1.v) ∧ qq1.cell? ⟨b2, 1, none⟩ = some (.int .i64 r1.1.n) ∧ qq1.cell? ⟨b2, 2, none⟩ = some (.slice A2 k2 c2)) ∧ (qq1.cell? ⟨b3, 0, none⟩ = some (.int .i64 r2.1.v) ∧ qq1.cell? ⟨b3, 1, none⟩ = some (.int .i64 r2.1.n) ∧ qq1.cell? ⟨b3, 2, none⟩ = some (.slice A3 k3 c3)) ∧ (qq1.cell? ⟨b4, 0, none⟩ = some (.int .i64 r2.1.v) ∧ qq1.cell? ⟨b4, 1, none⟩ = some (.int .i64 r2.1.n) ∧ qq1.cell? ⟨b4, 2, none⟩ = some (.slice A4 k4 c4)) ∧ (qq1.cell? ⟨b5, 0, none⟩ = some (.int .i64 r3.1.v) ∧ qq1.cell? ⟨b5, 1, none⟩ = some (.int .i64 r3.1.n) ∧ qq1.cell? ⟨b5, 2, none⟩ = some (.slice A5 k5 c5)) ∧ (qq1.cell? ⟨b6, 0, none⟩ = some (.int .i64 r3.1.v) ∧ qq1.cell? ⟨b6, 1, none⟩ = some (.int .i64 r3.1.n) ∧ qq1.cell? ⟨b6, 2, none⟩ = some (.slice A6 k6 c6)) := ⟨cells3_keep t1 hz1, cells3_keep t2 hz1, cells3_keep t3 hz1, cells3_keep t4 hz1, cells3_keep t5 hz1, cells3_keep t6 hz1⟩
        clear hq hprev)
     | (go_at_call 13
        have hprev := hz0
        refine (ours_ _ r1.1 A1 k1 c1).mono ?_
        rintro e pp1 ⟨rfl, hq⟩
        have ho1 : Below x6.heap.size x6 pp1 := below_step hz0 hq (Nat.le_refl _)
        have TO1 : (pp1.cell? ⟨b1, 0, none⟩ = some (.int .i64 r1.1.v) ∧ pp1.cell? ⟨b1, 1, none⟩ = some (.int .i64 r1.1.n) ∧ pp1.cell? ⟨b1, 2, none⟩ = some (.slice A1 k1 c1)) ∧ (pp1.cell? ⟨b2, 0, none⟩ = some (.int .i64 r1.1.v) ∧ pp1.cell? ⟨b2, 1, none⟩ = some (.int .i64 r1.1.n) ∧ pp1.cell? ⟨b2, 2, none⟩ = some (.slice A2 k2 c2)) ∧ (pp1.cell? ⟨b3, 0, none⟩ = some (.int .i64 r2.1.v) ∧ pp1.cell? ⟨b3, 1, none⟩ = some (.int .i64 r2.1.n) ∧ pp1.cell? ⟨b3, 2, none⟩ = some (.slice A3 k3 c3)) ∧ (pp1.cell? ⟨b4, 0, none⟩ = some (.int .i64 r2.1.v) ∧ pp1.cell? ⟨b4, 1, none⟩ = some (.int .i64 r2.1.n) ∧ pp1.cell? ⟨b4, 2, none⟩ = some (.slice A4 k4 c4)) ∧ (pp1.cell? ⟨b5, 0, none⟩ = some (.int .i64 r3.1.v) ∧ pp1.cell? ⟨b5, 1, none⟩ = some (.int .i64 r3.1.n) ∧ pp1.cell? ⟨b5, 2, none⟩ = some (.slice A5 k5 c5)) ∧ (pp1.cell? ⟨b6, 0, none⟩ = some (.int .i64 r3.1.v) ∧ pp1.cell? ⟨b6, 1, none⟩ = some (.int .i64 r3.1.n) ∧ pp1.cell? ⟨b6, 2, none⟩ = some (.slice A6 k6 c6)) := ⟨cells3_keep t1 ho1, cells3_keep t2 ho1, cells3_keep t3 ho1, cells3_keep t4 ho1, cells3_keep t5 ho1, cells3_keep t6 ho1⟩
        simp only [mv]
        clear hq hprev)
     | (go_at_call 18
        refine (alive_ _).mono ?_
        rintro e zz ⟨rfl, hq⟩
        have hzz : Below x6.heap.size x6 zz := below_step hz3 hq (Nat.le_refl _)
        have TA : (zz.cell? ⟨b1, 0, none⟩ = some (.int .i64 r1.1.v) ∧ zz.cell? ⟨b1, 1, none⟩ = some (.int .i64 r1.1.n) ∧ zz.cell? ⟨b1, 2, none⟩ = some (.slice A1 k1 c1)) ∧ (zz.cell? ⟨b2, 0, none⟩ = some (.int .i64 r1.1.v) ∧ zz.cell? ⟨b2, 1, none⟩ = some (.int .i64 r1.1.n) ∧ zz.cell? ⟨b2, 2, none⟩ = some (.slice A2 k2 c2)) ∧ (zz.cell? ⟨b3, 0, none⟩ = some (.int .i64 r2.1.v) ∧ zz.cell? ⟨b3, 1, none⟩ = some (.int .i64 r2.1.n) ∧ zz.cell? ⟨b3, 2, none⟩ = some (.slice A3 k3 c3)) ∧ (zz.cell? ⟨b4, 0, none⟩ = some (.int .i64 r2.1.v) ∧ zz.cell? ⟨b4, 1, none⟩ = some (.int .i64 r2.1.n) ∧ zz.cell? ⟨b4, 2, none⟩ = some (.slice A4 k4 c4)) ∧ (zz.cell? ⟨b5, 0, none⟩ = some (.int .i64 r3.1.v) ∧ zz.cell? ⟨b5, 1, none⟩ = some (.int .i64 r3.1.n) ∧ zz.cell? ⟨b5, 2, none⟩ = some (.slice A5 k5 c5)) ∧ (zz.cell? ⟨b6, 0, none⟩ = some (.int .i64 r3.1.v) ∧ zz.cell? ⟨b6, 1, none⟩ = some (.int .i64 r3.1.n) ∧ zz.cell? ⟨b6, 2, none⟩ = some (.slice A6 k6 c6)) := ⟨cells3_keep t1 hzz, cells3_keep t2 hzz, cells3_keep t3 hzz, cells3_keep t4 hzz, cells3_keep t5 hzz, cells3_keep t6 hzz⟩))
  go_wp2
  go_ret
  exact ⟨rfl, below_step hbx hzz (Nat.le_refl _)⟩
end
end Sma
open Sma

set_option maxRecDepth 100000 in
theorem smapTurns_lifted (os : Os) (started : os.Started) (H : Type) (enc : TypeId × Value → H) :
    ReturnsInHanded {} Try.checked os 4 .any (Rows.smapTurnsSpec.pre6 enc Try.prog Try.f4 Rows.smapTurnsRow.domain false) (Rows.smapTurnsSpec.post enc Try.prog Try.f4 false true false false) := by
  refine law_lifted (C := Try.checked) (tb := 4) own_ started (by kernel_rfl) Try.func4
    (ChangeSpec.witness6 (enc := enc) (C := Try.checked) false ⟨#[], #[.agg #[.int .i64 0, .int .i64 0, .slice none 0 0], .int .i64 0, .int .i64 0], []⟩ 8 (by kernel_rfl) (by kernel_rfl) (by kernel_rfl) (by kernel_rfl))
    rfl rfl Try.underlying4 laidOut_ (by kernel_rfl) (fun ds h => by match ds, h with | [_, _, _], _ => rfl) ?_
  intro W base args ds p hval0 hA0 _ hsz0
  have hval : ∀ (j : Nat) t v, Try.f4.params[j]? = some t → args[j]? = some v → Value.okWide Try.prog W .any base t v := hval0
  have hA : DataW.TrodAll enc Try.prog W 0 (fun _ => true) true Try.f4.params.toList args.toList ds p := hA0
  have hsz : (DataW.weightsEach Try.prog Try.f4.params.toList ds).all (· ≤ reachBytes) = true := hsz0
  clear hval0 hA0 hsz0
  rw [Try.params4] at hA hval hsz
  obtain ⟨v0, v1, v2, d0, d1, d2, p0, p1, p2, rfl, rfl, rfl, h0, h1, h2⟩ := trodAll_three hA
  obtain ⟨cs0, a0, rfl, r0, b0⟩ := arg_struct ops_mp Try.underlying25 (hval 0 _ v0 rfl rfl) h0 (weight_at hsz (j := 0) rfl rfl)
  obtain ⟨z1, rfl, hz1⟩ := arg_int _ _ Try.underlying3 (hval 1 _ v1 rfl rfl) h1 wf_i64
  obtain ⟨z2, rfl, hz2⟩ := arg_int _ _ Try.underlying3 (hval 2 _ v2 rfl rfl) h2 wf_i64
  exact by
    obtain ⟨A0, k0, c0, rfl, hm, -⟩ := mp_arr r0
    exact turns_walk W (toMp a0) A0 k0 c0 hm z1 z2 hz1 hz2

/-- SmapTurns, for every input: the statement as it was given. -/
theorem smapTurns_holds : Rows.SmapTurnsSaid :=
  OpenClaim.holds_of_wide 4 Try.f4 rfl rfl rfl rfl rfl rfl rfl ⟨rfl, rfl, rfl, rfl, rfl⟩ rfl rfl rfl rfl rfl (by kernel_rfl) Try.func4 (by kernel_rfl)
    (of_decide_eq_true (by kernel_rfl)) (by unfold Func.isWrapper; first | (rw [if_pos (by decide +kernel)]; kernel_rfl) | (rw [if_neg (by decide +kernel)]; exact ⟨rfl, rfl⟩))
    (fun os started H enc _ => smapTurns_lifted os started H enc)
end Go.Proofs.Ytncapionioeieaa
