/- Proves SmapMakes of layer 13 (smap), for every input, with no condition: the map of any nodes, and which maps may be, are the document's, or refused. Printed by wip/tools/gensmamk.py. -/
import Derived.Test.YtncapionioeieaaSmaAr
import Derived.Test.YtncapionioeieaaSmaP
set_option linter.all false
namespace Go.Proofs.Ytncapionioeieaa
open Go.ChangeShapes Go.WideShapes Go.ChangeAt Go.RowKit
namespace Sma

section
variable (w : World)
set_option maxRecDepth 100000 in
set_option maxHeartbeats 8000000 in
theorem makes_walk (n : Int) (hn : I64 n) (A0 : Option Addr) (k0 c0 : Nat) (l : List Int) (hl : Is w A0 k0 l) (hk0 : k0 ≤ 9223372036854775807) (m : Mp) (A : Option Addr) (k c : Nat) (h : Mr w m A k c) : Calls Try.prog 3 #[.int .i64 n, .slice A0 k0 c0, mv m A k c] w fun e w' => e = .returned (.bool true) ∧ Below w.heap.size w w' := by
  have hbx := (Below.refl w.heap.size w).alloc (Nat.le_refl _) (rmo m A k c)
  have hm1 := h.below hbx
  have hl1 := hl.below hbx
  have hbk := Blk.new w 25 #[.int .i64 m.v, .int .i64 m.n, .slice A k c] rfl
  simp only [mv]
  clear h hl
  obtain ⟨r, hr⟩ : ∃ r, newA n l = r := ⟨_, rfl⟩
  have Hr := Lib.hid hr
  clear hr
  go_enter Try.func3, Try.ntmps3
  go_wp2_with fail
  generalize (w.alloc (rmo m A k c)) = v0 at *
  refine (new_ _ n A0 k0 c0 l hl1 hk0 hn).mono ?_
  rw [Hr.out]
  rintro e y1 ⟨A1, k1, c1, rfl, g1, hb⟩
  have hal := (Below.refl y1.heap.size y1).alloc (Nat.le_refl _) (.cells #[.int .i64 r.1.v, .int .i64 r.1.n, .slice A1 k1 c1] 26)
  have hs1 := Blk.new y1 26 #[.int .i64 r.1.v, .int .i64 r.1.n, .slice A1 k1 c1] rfl
  replace hm1 := (hm1.below hb).below hal
  replace hl1 := (hl1.below hb).below hal
  replace hbk := (hbk.keep hb).keep hal
  replace hbx := below_step (below_step hbx hb (Nat.le_refl _)) hal (Nat.le_refl _)
  replace g1 := g1.mr.below hal
  clear hb hal
  simp only [mv]
  go_wp2_with fail
  generalize hw1 : y1.heap.size = b1 at *
  generalize (y1.alloc (.cells #[.int .i64 r.1.v, .int .i64 r.1.n, .slice A1 k1 c1] 26)) = x1 at *
  clear hw1
  refine (rnew_ _ n A0 k0 c0 l hl1 hk0 hn).mono ?_
  rw [Hr.out]
  rintro e y2 ⟨A2, k2, c2, rfl, g2, hb⟩
  have hal := (Below.refl y2.heap.size y2).alloc (Nat.le_refl _) (.cells #[.int .i64 r.1.v, .int .i64 r.1.n, .slice A2 k2 c2] 25)
  have hs2 := Blk.new y2 25 #[.int .i64 r.1.v, .int .i64 r.1.n, .slice A2 k2 c2] rfl
  replace hm1 := (hm1.below hb).below hal
  replace hl1 := (hl1.below hb).below hal
  replace hbk := (hbk.keep hb).keep hal
  replace hbx := below_step (below_step hbx hb (Nat.le_refl _)) hal (Nat.le_refl _)
  replace hs1 := (hs1.keep hb).keep hal
  replace g1 := (g1.below hb).below hal
  replace g2 := g2.below hal
  clear hb hal
  simp only [mv]
  go_wp2_with fail
  generalize hw2 : y2.heap.size = b2 at *
  generalize (y2.alloc (.cells #[.int .i64 r.1.v, .int .i64 r.1.n, .slice A2 k2 c2] 25)) = x2 at *
  clear hw2
  obtain ⟨m00, m01, m02, -, -, -⟩ := cells3 hbk
  have t0 : (x2.cell? ⟨w.heap.size, 0, none⟩ = some (.int .i64 m.v) ∧ x2.cell? ⟨w.heap.size, 1, none⟩ = some (.int .i64 m.n) ∧ x2.cell? ⟨w.heap.size, 2, none⟩ = some (.slice A k c)) := ⟨m00, m01, m02⟩
  clear m00 m01 m02 hbk
  obtain ⟨m10, m11, m12, -, -, -⟩ := cells3 hs1
  have t1 : (x2.cell? ⟨b1, 0, none⟩ = some (.int .i64 r.1.v) ∧ x2.cell? ⟨b1, 1, none⟩ = some (.int .i64 r.1.n) ∧ x2.cell? ⟨b1, 2, none⟩ = some (.slice A1 k1 c1)) := ⟨m10, m11, m12⟩
  clear m10 m11 m12 hs1
  obtain ⟨m20, m21, m22, -, -, -⟩ := cells3 hs2
  have t2 : (x2.cell? ⟨b2, 0, none⟩ = some (.int .i64 r.1.v) ∧ x2.cell? ⟨b2, 1, none⟩ = some (.int .i64 r.1.n) ∧ x2.cell? ⟨b2, 2, none⟩ = some (.slice A2 k2 c2)) := ⟨m20, m21, m22⟩
  clear m20 m21 m22 hs2
  have hz0 := below_drew0 x2
  have tb : ∀ b : Bool, (b == b) = true := fun b => by simp
  go_region_held3 (fun w' => (w'.cell? ⟨w.heap.size, 0, none⟩ = some (.int .i64 m.v) ∧ w'.cell? ⟨w.heap.size, 1, none⟩ = some (.int .i64 m.n) ∧ w'.cell? ⟨w.heap.size, 2, none⟩ = some (.slice A k c)) ∧ (w'.cell? ⟨b1, 0, none⟩ = some (.int .i64 r.1.v) ∧ w'.cell? ⟨b1, 1, none⟩ = some (.int .i64 r.1.n) ∧ w'.cell? ⟨b1, 2, none⟩ = some (.slice A1 k1 c1)) ∧ (w'.cell? ⟨b2, 0, none⟩ = some (.int .i64 r.1.v) ∧ w'.cell? ⟨b2, 1, none⟩ = some (.int .i64 r.1.n) ∧ w'.cell? ⟨b2, 2, none⟩ = some (.slice A2 k2 c2)))
    (first | exact ⟨t0, t1, t2⟩ | exact T12 | exact T11 | exact T10 | exact T9 | exact T8 | exact T7 | exact T6 | exact T5 | exact T4 | exact T3 | exact T2 | exact T1 | go_keep)
    (first
     | (go_at_call 18
        have hprev := hz11
        refine (alive_ _).mono ?_
        rintro e q12 ⟨rfl, hq⟩
        have hz12 : Below x2.heap.size x2 q12 := below_step hz11 hq (Nat.le_refl _)
        have T12 : (q12.cell? ⟨w.heap.size, 0, none⟩ = some (.int .i64 m.v) ∧ q12.cell? ⟨w.heap.size, 1, none⟩ = some (.int .i64 m.n) ∧ q12.cell? ⟨w.heap.size, 2, none⟩ = some (.slice A k c)) ∧ (q12.cell? ⟨b1, 0, none⟩ = some (.int .i64 r.1.v) ∧ q12.cell? ⟨b1, 1, none⟩ = some (.int .i64 r.1.n) ∧ q12.cell? ⟨b1, 2, none⟩ = some (.slice A1 k1 c1)) ∧ (q12.cell? ⟨b2, 0, none⟩ = some (.int .i64 r.1.v) ∧ q12.cell? ⟨b2, 1, none⟩ = some (.int .i64 r.1.n) ∧ q12.cell? ⟨b2, 2, none⟩ = some (.slice A2 k2 c2)) := ⟨cells3_keep t0 hz12, cells3_keep t1 hz12, cells3_keep t2 hz12⟩
        try simp only [mv]
        clear hq hprev)
     | (go_at_call 17
        have hprev := hz10
        refine (same_ _ m m A A k k c c (hm1.below hz10) (hm1.below hz10)).mono ?_
        rw [sameM_refl]
        rintro e q11 ⟨rfl, hq⟩
        have hz11 : Below x2.heap.size x2 q11 := below_step hz10 hq (Nat.le_refl _)
        have T11 : (q11.cell? ⟨w.heap.size, 0, none⟩ = some (.int .i64 m.v) ∧ q11.cell? ⟨w.heap.size, 1, none⟩ = some (.int .i64 m.n) ∧ q11.cell? ⟨w.heap.size, 2, none⟩ = some (.slice A k c)) ∧ (q11.cell? ⟨b1, 0, none⟩ = some (.int .i64 r.1.v) ∧ q11.cell? ⟨b1, 1, none⟩ = some (.int .i64 r.1.n) ∧ q11.cell? ⟨b1, 2, none⟩ = some (.slice A1 k1 c1)) ∧ (q11.cell? ⟨b2, 0, none⟩ = some (.int .i64 r.1.v) ∧ q11.cell? ⟨b2, 1, none⟩ = some (.int .i64 r.1.n) ∧ q11.cell? ⟨b2, 2, none⟩ = some (.slice A2 k2 c2)) := ⟨cells3_keep t0 hz11, cells3_keep t1 hz11, cells3_keep t2 hz11⟩
        try simp only [mv]
        clear hq hprev)
     | (go_at_call 15
        have hprev := hz9
        refine (theirs_ _ m A k c).mono ?_
        rintro e q10 ⟨rfl, hq⟩
        have hz10 : Below x2.heap.size x2 q10 := below_step hz9 hq (Nat.le_refl _)
        have T10 : (q10.cell? ⟨w.heap.size, 0, none⟩ = some (.int .i64 m.v) ∧ q10.cell? ⟨w.heap.size, 1, none⟩ = some (.int .i64 m.n) ∧ q10.cell? ⟨w.heap.size, 2, none⟩ = some (.slice A k c)) ∧ (q10.cell? ⟨b1, 0, none⟩ = some (.int .i64 r.1.v) ∧ q10.cell? ⟨b1, 1, none⟩ = some (.int .i64 r.1.n) ∧ q10.cell? ⟨b1, 2, none⟩ = some (.slice A1 k1 c1)) ∧ (q10.cell? ⟨b2, 0, none⟩ = some (.int .i64 r.1.v) ∧ q10.cell? ⟨b2, 1, none⟩ = some (.int .i64 r.1.n) ∧ q10.cell? ⟨b2, 2, none⟩ = some (.slice A2 k2 c2)) := ⟨cells3_keep t0 hz10, cells3_keep t1 hz10, cells3_keep t2 hz10⟩
        try simp only [mv]
        clear hq hprev)
     | (go_at_call 15
        have hprev := hz8
        refine (theirs_ _ m A k c).mono ?_
        rintro e q9 ⟨rfl, hq⟩
        have hz9 : Below x2.heap.size x2 q9 := below_step hz8 hq (Nat.le_refl _)
        have T9 : (q9.cell? ⟨w.heap.size, 0, none⟩ = some (.int .i64 m.v) ∧ q9.cell? ⟨w.heap.size, 1, none⟩ = some (.int .i64 m.n) ∧ q9.cell? ⟨w.heap.size, 2, none⟩ = some (.slice A k c)) ∧ (q9.cell? ⟨b1, 0, none⟩ = some (.int .i64 r.1.v) ∧ q9.cell? ⟨b1, 1, none⟩ = some (.int .i64 r.1.n) ∧ q9.cell? ⟨b1, 2, none⟩ = some (.slice A1 k1 c1)) ∧ (q9.cell? ⟨b2, 0, none⟩ = some (.int .i64 r.1.v) ∧ q9.cell? ⟨b2, 1, none⟩ = some (.int .i64 r.1.n) ∧ q9.cell? ⟨b2, 2, none⟩ = some (.slice A2 k2 c2)) := ⟨cells3_keep t0 hz9, cells3_keep t1 hz9, cells3_keep t2 hz9⟩
        try simp only [mv]
        clear hq hprev)
     | (go_at_call 12
        have hprev := hz7
        refine (rsame_ _ m r.1 A A2 k k2 c c2 (hm1.below hz7) (g2.below hz7)).mono ?_
        rintro e q8 ⟨rfl, hq⟩
        have hz8 : Below x2.heap.size x2 q8 := below_step hz7 hq (Nat.le_refl _)
        have T8 : (q8.cell? ⟨w.heap.size, 0, none⟩ = some (.int .i64 m.v) ∧ q8.cell? ⟨w.heap.size, 1, none⟩ = some (.int .i64 m.n) ∧ q8.cell? ⟨w.heap.size, 2, none⟩ = some (.slice A k c)) ∧ (q8.cell? ⟨b1, 0, none⟩ = some (.int .i64 r.1.v) ∧ q8.cell? ⟨b1, 1, none⟩ = some (.int .i64 r.1.n) ∧ q8.cell? ⟨b1, 2, none⟩ = some (.slice A1 k1 c1)) ∧ (q8.cell? ⟨b2, 0, none⟩ = some (.int .i64 r.1.v) ∧ q8.cell? ⟨b2, 1, none⟩ = some (.int .i64 r.1.n) ∧ q8.cell? ⟨b2, 2, none⟩ = some (.slice A2 k2 c2)) := ⟨cells3_keep t0 hz8, cells3_keep t1 hz8, cells3_keep t2 hz8⟩
        try simp only [mv]
        clear hq hprev)
     | (go_at_call 17
        have hprev := hz6
        refine (same_ _ m r.1 A A1 k k1 c c1 (hm1.below hz6) (g1.below hz6)).mono ?_
        rintro e q7 ⟨rfl, hq⟩
        have hz7 : Below x2.heap.size x2 q7 := below_step hz6 hq (Nat.le_refl _)
        have T7 : (q7.cell? ⟨w.heap.size, 0, none⟩ = some (.int .i64 m.v) ∧ q7.cell? ⟨w.heap.size, 1, none⟩ = some (.int .i64 m.n) ∧ q7.cell? ⟨w.heap.size, 2, none⟩ = some (.slice A k c)) ∧ (q7.cell? ⟨b1, 0, none⟩ = some (.int .i64 r.1.v) ∧ q7.cell? ⟨b1, 1, none⟩ = some (.int .i64 r.1.n) ∧ q7.cell? ⟨b1, 2, none⟩ = some (.slice A1 k1 c1)) ∧ (q7.cell? ⟨b2, 0, none⟩ = some (.int .i64 r.1.v) ∧ q7.cell? ⟨b2, 1, none⟩ = some (.int .i64 r.1.n) ∧ q7.cell? ⟨b2, 2, none⟩ = some (.slice A2 k2 c2)) := ⟨cells3_keep t0 hz7, cells3_keep t1 hz7, cells3_keep t2 hz7⟩
        try simp only [mv]
        clear hq hprev)
     | (go_at_call 15
        have hprev := hz5
        refine (theirs_ _ m A k c).mono ?_
        rintro e q6 ⟨rfl, hq⟩
        have hz6 : Below x2.heap.size x2 q6 := below_step hz5 hq (Nat.le_refl _)
        have T6 : (q6.cell? ⟨w.heap.size, 0, none⟩ = some (.int .i64 m.v) ∧ q6.cell? ⟨w.heap.size, 1, none⟩ = some (.int .i64 m.n) ∧ q6.cell? ⟨w.heap.size, 2, none⟩ = some (.slice A k c)) ∧ (q6.cell? ⟨b1, 0, none⟩ = some (.int .i64 r.1.v) ∧ q6.cell? ⟨b1, 1, none⟩ = some (.int .i64 r.1.n) ∧ q6.cell? ⟨b1, 2, none⟩ = some (.slice A1 k1 c1)) ∧ (q6.cell? ⟨b2, 0, none⟩ = some (.int .i64 r.1.v) ∧ q6.cell? ⟨b2, 1, none⟩ = some (.int .i64 r.1.n) ∧ q6.cell? ⟨b2, 2, none⟩ = some (.slice A2 k2 c2)) := ⟨cells3_keep t0 hz6, cells3_keep t1 hz6, cells3_keep t2 hz6⟩
        try simp only [mv]
        clear hq hprev)
     | (go_at_call 16
        have hprev := hz4
        refine (rright_ _ m A k c (hm1.below hz4)).mono ?_
        rintro e q5 ⟨rfl, hq⟩
        have hz5 : Below x2.heap.size x2 q5 := below_step hz4 hq (Nat.le_refl _)
        have T5 : (q5.cell? ⟨w.heap.size, 0, none⟩ = some (.int .i64 m.v) ∧ q5.cell? ⟨w.heap.size, 1, none⟩ = some (.int .i64 m.n) ∧ q5.cell? ⟨w.heap.size, 2, none⟩ = some (.slice A k c)) ∧ (q5.cell? ⟨b1, 0, none⟩ = some (.int .i64 r.1.v) ∧ q5.cell? ⟨b1, 1, none⟩ = some (.int .i64 r.1.n) ∧ q5.cell? ⟨b1, 2, none⟩ = some (.slice A1 k1 c1)) ∧ (q5.cell? ⟨b2, 0, none⟩ = some (.int .i64 r.1.v) ∧ q5.cell? ⟨b2, 1, none⟩ = some (.int .i64 r.1.n) ∧ q5.cell? ⟨b2, 2, none⟩ = some (.slice A2 k2 c2)) := ⟨cells3_keep t0 hz5, cells3_keep t1 hz5, cells3_keep t2 hz5⟩
        try simp only [mv]
        clear hq hprev)
     | (go_at_call 14
        have hprev := hz3
        refine (right_ _ m A k c (hm1.below hz3)).mono ?_
        rintro e q4 ⟨rfl, hq⟩
        have hz4 : Below x2.heap.size x2 q4 := below_step hz3 hq (Nat.le_refl _)
        have T4 : (q4.cell? ⟨w.heap.size, 0, none⟩ = some (.int .i64 m.v) ∧ q4.cell? ⟨w.heap.size, 1, none⟩ = some (.int .i64 m.n) ∧ q4.cell? ⟨w.heap.size, 2, none⟩ = some (.slice A k c)) ∧ (q4.cell? ⟨b1, 0, none⟩ = some (.int .i64 r.1.v) ∧ q4.cell? ⟨b1, 1, none⟩ = some (.int .i64 r.1.n) ∧ q4.cell? ⟨b1, 2, none⟩ = some (.slice A1 k1 c1)) ∧ (q4.cell? ⟨b2, 0, none⟩ = some (.int .i64 r.1.v) ∧ q4.cell? ⟨b2, 1, none⟩ = some (.int .i64 r.1.n) ∧ q4.cell? ⟨b2, 2, none⟩ = some (.slice A2 k2 c2)) := ⟨cells3_keep t0 hz4, cells3_keep t1 hz4, cells3_keep t2 hz4⟩
        try simp only [mv]
        clear hq hprev)
     | (go_at_call 15
        have hprev := hz2
        refine (theirs_ _ m A k c).mono ?_
        rintro e q3 ⟨rfl, hq⟩
        have hz3 : Below x2.heap.size x2 q3 := below_step hz2 hq (Nat.le_refl _)
        have T3 : (q3.cell? ⟨w.heap.size, 0, none⟩ = some (.int .i64 m.v) ∧ q3.cell? ⟨w.heap.size, 1, none⟩ = some (.int .i64 m.n) ∧ q3.cell? ⟨w.heap.size, 2, none⟩ = some (.slice A k c)) ∧ (q3.cell? ⟨b1, 0, none⟩ = some (.int .i64 r.1.v) ∧ q3.cell? ⟨b1, 1, none⟩ = some (.int .i64 r.1.n) ∧ q3.cell? ⟨b1, 2, none⟩ = some (.slice A1 k1 c1)) ∧ (q3.cell? ⟨b2, 0, none⟩ = some (.int .i64 r.1.v) ∧ q3.cell? ⟨b2, 1, none⟩ = some (.int .i64 r.1.n) ∧ q3.cell? ⟨b2, 2, none⟩ = some (.slice A2 k2 c2)) := ⟨cells3_keep t0 hz3, cells3_keep t1 hz3, cells3_keep t2 hz3⟩
        try simp only [mv]
        clear hq hprev)
     | (go_at_call 12
        have hprev := hz1
        refine (rsame_ _ r.1 r.1 A1 A2 k1 k2 c1 c2 (g1.below hz1) (g2.below hz1)).mono ?_
        rw [sameM_refl]
        rintro e q2 ⟨rfl, hq⟩
        have hz2 : Below x2.heap.size x2 q2 := below_step hz1 hq (Nat.le_refl _)
        have T2 : (q2.cell? ⟨w.heap.size, 0, none⟩ = some (.int .i64 m.v) ∧ q2.cell? ⟨w.heap.size, 1, none⟩ = some (.int .i64 m.n) ∧ q2.cell? ⟨w.heap.size, 2, none⟩ = some (.slice A k c)) ∧ (q2.cell? ⟨b1, 0, none⟩ = some (.int .i64 r.1.v) ∧ q2.cell? ⟨b1, 1, none⟩ = some (.int .i64 r.1.n) ∧ q2.cell? ⟨b1, 2, none⟩ = some (.slice A1 k1 c1)) ∧ (q2.cell? ⟨b2, 0, none⟩ = some (.int .i64 r.1.v) ∧ q2.cell? ⟨b2, 1, none⟩ = some (.int .i64 r.1.n) ∧ q2.cell? ⟨b2, 2, none⟩ = some (.slice A2 k2 c2)) := ⟨cells3_keep t0 hz2, cells3_keep t1 hz2, cells3_keep t2 hz2⟩
        try simp only [mv]
        clear hq hprev)
     | (go_at_call 13
        have hprev := hz0
        refine (ours_ _ r.1 A1 k1 c1).mono ?_
        rintro e q1 ⟨rfl, hq⟩
        have hz1 : Below x2.heap.size x2 q1 := below_step hz0 hq (Nat.le_refl _)
        have T1 : (q1.cell? ⟨w.heap.size, 0, none⟩ = some (.int .i64 m.v) ∧ q1.cell? ⟨w.heap.size, 1, none⟩ = some (.int .i64 m.n) ∧ q1.cell? ⟨w.heap.size, 2, none⟩ = some (.slice A k c)) ∧ (q1.cell? ⟨b1, 0, none⟩ = some (.int .i64 r.1.v) ∧ q1.cell? ⟨b1, 1, none⟩ = some (.int .i64 r.1.n) ∧ q1.cell? ⟨b1, 2, none⟩ = some (.slice A1 k1 c1)) ∧ (q1.cell? ⟨b2, 0, none⟩ = some (.int .i64 r.1.v) ∧ q1.cell? ⟨b2, 1, none⟩ = some (.int .i64 r.1.n) ∧ q1.cell? ⟨b2, 2, none⟩ = some (.slice A2 k2 c2)) := ⟨cells3_keep t0 hz1, cells3_keep t1 hz1, cells3_keep t2 hz1⟩
        try simp only [mv]
        clear hq hprev))

  go_wp2
  go_ret
  exact ⟨by simp, below_step hbx hz12 (Nat.le_refl _)⟩
end
end Sma
open Sma

set_option maxRecDepth 100000 in
theorem smapMakes_lifted (os : Os) (started : os.Started) (H : Type) (enc : TypeId × Value → H) :
    ReturnsInHanded {} Try.checked os 3 .any (Rows.smapMakesSpec.pre6 enc Try.prog Try.f3 Rows.smapMakesRow.domain false) (Rows.smapMakesSpec.post enc Try.prog Try.f3 false true false false) := by
  refine law_lifted (C := Try.checked) (tb := 4) own_ started (by kernel_rfl) Try.func3
    (ChangeSpec.witness6 (enc := enc) (C := Try.checked) false ⟨#[], #[.int .i64 0, .slice none 0 0, .agg #[.int .i64 0, .int .i64 0, .slice none 0 0]], []⟩ 8 (by kernel_rfl) (by kernel_rfl) (by kernel_rfl) (by kernel_rfl))
    rfl rfl Try.underlying4 laidOut_ (by kernel_rfl) (fun ds h => by match ds, h with | [_, _, _], _ => rfl) ?_
  intro W base args ds p hval0 hA0 _ hsz0
  have hval : ∀ (j : Nat) t v, Try.f3.params[j]? = some t → args[j]? = some v → Value.okWide Try.prog W .any base t v := hval0
  have hA : DataW.TrodAll enc Try.prog W 0 (fun _ => true) true Try.f3.params.toList args.toList ds p := hA0
  have hsz : (DataW.weightsEach Try.prog Try.f3.params.toList ds).all (· ≤ reachBytes) = true := hsz0
  clear hval0 hA0 hsz0
  rw [Try.params3] at hA hval hsz
  obtain ⟨v0, v1, v2, d0, d1, d2, p0, p1, p2, rfl, rfl, rfl, h0, h1, h2⟩ := trodAll_three hA
  obtain ⟨z0, rfl, hz0⟩ := arg_int _ _ Try.underlying3 (hval 0 _ v0 rfl rfl) h0 wf_i64
  obtain ⟨A1, n1, c1, xs1, rfl, r1, b1⟩ := arg_slice ops_ints Try.underlying22 (hval 1 _ v1 rfl rfl) h1 (weight_at hsz (j := 1) rfl rfl)
  obtain ⟨cs2, a2, rfl, r2, b2⟩ := arg_struct ops_mp Try.underlying25 (hval 2 _ v2 rfl rfl) h2 (weight_at hsz (j := 2) rfl rfl)
  exact by
    obtain ⟨A9, k9, c9, rfl, hm, -⟩ := mp_arr r2
    obtain ⟨hIs, hle, -, hcb⟩ := ints_is r1
    exact makes_walk W z0 hz0 A1 n1 c1 xs1 hIs (by omega) (toMp a2) A9 k9 c9 hm

/-- SmapMakes, for every input: the statement as it was given. -/
theorem smapMakes_holds : Rows.SmapMakesSaid :=
  OpenClaim.holds_of_wide 3 Try.f3 rfl rfl rfl rfl rfl rfl rfl ⟨rfl, rfl, rfl, rfl, rfl⟩ rfl rfl rfl rfl rfl (by kernel_rfl) Try.func3 (by kernel_rfl)
    (of_decide_eq_true (by kernel_rfl)) (by unfold Func.isWrapper; first | (rw [if_pos (by decide +kernel)]; kernel_rfl) | (rw [if_neg (by decide +kernel)]; exact ⟨rfl, rfl⟩))
    (fun os started H enc _ => smapMakes_lifted os started H enc)
end Go.Proofs.Ytncapionioeieaa
