/- Proves SmapOne of layer 13 (smap), for every input, with no condition: a map that is made of one is one, of the next version and as many blocks. Printed by wip/tools/gensmaon.py. -/
import Derived.Test.YtncapionioeieaaSmaAr
import Derived.Test.YtncapionioeieaaSmaG
import Derived.Test.YtncapionioeieaaSmaH
set_option linter.all false
namespace Go.Proofs.Ytncapionioeieaa
open Go.ChangeShapes Go.WideShapes Go.ChangeAt Go.RowKit
namespace Sma

/-- What is answered: an error and no map, or a map that was made. -/
structure Res (m : Mp) (r : Mp × Int) : Prop where
  ok : r.2 = 0 → Made m r.1
  er : r.2 ≠ 0 → r.1 = zM
theorem next_er {m : Mp} {l : List Pc} (h : (nextA m l).2 ≠ 0) : (nextA m l).1 = zM := by
  by_cases hv : 1099511627776 ≤ m.v
  · rw [next_far hv]
  · rw [next_ok (by omega)] at h; simp at h
theorem res_split (m : Mp) (a : Int) : Res m (splitA m a) := ⟨fun h => split_made (show splitA m a = ((splitA m a).1, 0) by rw [← h]), fun h => by
  by_cases hb : m.right = false ∨ a < 1 ∨ m.n ≤ a
  · rw [split_bad hb]
  · have hr : m.right = true := by cases e : m.right with | true => rfl | false => exact absurd (Or.inl e) hb
    have h1 : 1 ≤ a := by have := fun h => hb (.inr (.inl h)); omega
    have h2 : a < m.n := by have := fun h => hb (.inr (.inr h)); omega
    obtain ⟨pre, p, post, hat⟩ := at_of hr (by omega) h2
    rw [split_at hr hat h1] at h ⊢
    split
    · rfl
    · split
      · rfl
      · rename_i g1 g2
        rw [if_neg g1, if_neg g2] at h
        exact next_er h⟩
theorem res_merge (m : Mp) (a : Int) : Res m (mergeA m a) := ⟨fun h => merge_made (show mergeA m a = ((mergeA m a).1, 0) by rw [← h]), fun h => by
  cases hr : m.right with
  | false => rw [merge_no hr]
  | true =>
    by_cases ha : a < 0 ∨ m.n ≤ a
    · rw [merge_none hr ha]
    · obtain ⟨pre, p, post, hat⟩ := at_of hr (a := a) (by omega) (by omega)
      by_cases hf : pre = [] ∨ p.fr ≠ a
      · rw [merge_in hr hat hf]
      · have hf2 : p.fr = a := Classical.byContradiction fun e => hf (.inr e)
        rcases List.eq_nil_or_concat pre with e | ⟨pre0, q, e⟩
        · exact absurd (.inl e) hf
        · rw [List.concat_eq_append] at e
          subst e
          rw [merge_at hr hat hf2] at h ⊢
          split
          · rfl
          · rename_i g1
            rw [if_neg g1] at h
            exact next_er h⟩
theorem res_move (m : Mp) (a nd : Int) : Res m (moveA m a nd) := ⟨fun h => move_made (show moveA m a nd = ((moveA m a nd).1, 0) by rw [← h]), fun h => by
  cases hr : m.right with
  | false => rw [move_no hr]
  | true =>
    by_cases ha : a < 0 ∨ m.n ≤ a
    · rw [move_none hr ha]
    · obtain ⟨pre, p, post, hat⟩ := at_of hr (a := a) (by omega) (by omega)
      rw [move_at hr hat] at h ⊢
      split
      · rfl
      · split
        · rfl
        · rename_i g1 g2
          rw [if_neg g1, if_neg g2] at h
          exact next_er h⟩
theorem mr_zero (w : World) : Mr w zM none 0 0 := (got_zero w 0).mr
section
variable (w : World)
set_option maxRecDepth 100000 in
set_option maxHeartbeats 4000000 in
theorem one_walk (m : Mp) (A : Option Addr) (k c : Nat) (h : Mr w m A k c) (a nd : Int) (ha : I64 a) (hnd : I64 nd) : Calls Try.prog 6 #[mv m A k c, .int .i64 a, .int .i64 nd] w fun e w' => e = .returned (.bool true) ∧ Below w.heap.size w w' := by
  have hbx := (Below.refl w.heap.size w).alloc (Nat.le_refl _) (rmo m A k c)
  have hm1 := h.below hbx
  have hbk := Blk.new w 25 #[.int .i64 m.v, .int .i64 m.n, .slice A k c] rfl
  have hv := h.v
  have hn := h.n
  unfold I64 at hv hn
  simp only [mv]
  clear h
  obtain ⟨r1, hr1⟩ : ∃ r, splitA m a = r := ⟨_, rfl⟩
  obtain ⟨r2, hr2⟩ : ∃ r, mergeA m a = r := ⟨_, rfl⟩
  obtain ⟨r3, hr3⟩ : ∃ r, moveA m a nd = r := ⟨_, rfl⟩
  have Hr1 := Lib.hid hr1
  have Hr2 := Lib.hid hr2
  have Hr3 := Lib.hid hr3
  clear hr1 hr2 hr3
  go_enter Try.func6, Try.ntmps6
  go_wp2_with fail
  generalize (w.alloc (rmo m A k c)) = v0 at *
  refine (theirs_ _ m A k c).mono ?_
  rintro e u1 ⟨rfl, hb⟩
  replace hm1 := hm1.below hb
  replace hbk := hbk.keep hb
  replace hbx := below_step hbx hb (by omega)
  clear hb
  simp only [mv]
  go_wp2_with fail
  refine (split_ _ m A k c hm1 a ha).mono ?_
  rw [Hr1.out]
  rintro e v1 ⟨A1, k1, c1, rfl, g1, hb⟩
  have hal := (Below.refl v1.heap.size v1).alloc (Nat.le_refl _) (mo r1.1 A1 k1 c1)
  have hs1 := Blk.new v1 26 #[.int .i64 r1.1.v, .int .i64 r1.1.n, .slice A1 k1 c1] rfl
  replace hm1 := (hm1.below hb).below hal
  replace hbk := (hbk.keep hb).keep hal
  replace hbx := below_step (below_step hbx hb (by omega)) hal (by omega)
  replace g1 := g1.mr.below hal
  have hz1 : (v1.alloc (mo r1.1 A1 k1 c1)).heap.size = v1.heap.size + 1 := by simp
  clear hb hal
  simp only [mv]
  obtain ⟨d0, d1, d2, -, -, -⟩ := cells3 hbk
  go_wp2_with fail
  generalize hw1 : v1.heap.size = b1 at *
  generalize (v1.alloc (mo r1.1 A1 k1 c1)) = x1 at *
  refine (theirs_ _ m A k c).mono ?_
  rintro e u2 ⟨rfl, hb⟩
  replace hm1 := hm1.below hb
  replace hbk := hbk.keep hb
  replace hbx := below_step hbx hb (by omega)
  replace hs1 := hs1.keep hb
  replace g1 := g1.below hb
  clear hb d0 d1 d2
  simp only [mv]
  go_wp2_with fail
  refine (merge_ _ m A k c hm1 a ha).mono ?_
  rw [Hr2.out]
  rintro e v2 ⟨A2, k2, c2, rfl, g2, hb⟩
  have hal := (Below.refl v2.heap.size v2).alloc (Nat.le_refl _) (mo r2.1 A2 k2 c2)
  have hs2 := Blk.new v2 26 #[.int .i64 r2.1.v, .int .i64 r2.1.n, .slice A2 k2 c2] rfl
  replace hm1 := (hm1.below hb).below hal
  replace hbk := (hbk.keep hb).keep hal
  replace hbx := below_step (below_step hbx hb (by omega)) hal (by omega)
  replace hs1 := (hs1.keep hb).keep hal
  replace g1 := (g1.below hb).below hal
  replace g2 := g2.mr.below hal
  have hz2 : (v2.alloc (mo r2.1 A2 k2 c2)).heap.size = v2.heap.size + 1 := by simp
  clear hb hal
  simp only [mv]
  obtain ⟨d0, d1, d2, -, -, -⟩ := cells3 hbk
  go_wp2_with fail
  generalize hw2 : v2.heap.size = b2 at *
  generalize (v2.alloc (mo r2.1 A2 k2 c2)) = x2 at *
  refine (theirs_ _ m A k c).mono ?_
  rintro e u3 ⟨rfl, hb⟩
  replace hm1 := hm1.below hb
  replace hbk := hbk.keep hb
  replace hbx := below_step hbx hb (by omega)
  replace hs1 := hs1.keep hb
  replace g1 := g1.below hb
  replace hs2 := hs2.keep hb
  replace g2 := g2.below hb
  clear hb d0 d1 d2
  simp only [mv]
  go_wp2_with fail
  refine (move_ _ m A k c hm1 a nd ha hnd).mono ?_
  rw [Hr3.out]
  rintro e v3 ⟨A3, k3, c3, rfl, g3, hb⟩
  have hal := (Below.refl v3.heap.size v3).alloc (Nat.le_refl _) (mo r3.1 A3 k3 c3)
  have hs3 := Blk.new v3 26 #[.int .i64 r3.1.v, .int .i64 r3.1.n, .slice A3 k3 c3] rfl
  replace hm1 := (hm1.below hb).below hal
  replace hbk := (hbk.keep hb).keep hal
  replace hbx := below_step (below_step hbx hb (by omega)) hal (by omega)
  replace hs1 := (hs1.keep hb).keep hal
  replace g1 := (g1.below hb).below hal
  replace hs2 := (hs2.keep hb).keep hal
  replace g2 := (g2.below hb).below hal
  replace g3 := g3.mr.below hal
  have hz3 : (v3.alloc (mo r3.1 A3 k3 c3)).heap.size = v3.heap.size + 1 := by simp
  clear hb hal
  simp only [mv]
  obtain ⟨d0, d1, d2, -, -, -⟩ := cells3 hbk
  obtain ⟨m10, m11, m12, -, -, -⟩ := cells3 hs1
  obtain ⟨m20, m21, m22, -, -, -⟩ := cells3 hs2
  obtain ⟨m30, m31, m32, -, -, -⟩ := cells3 hs3
  go_wp2_with fail
  generalize hw3 : v3.heap.size = b3 at *
  generalize (v3.alloc (mo r3.1 A3 k3 c3)) = x3 at *
  clear d0 d1 d2 m10 m11 m12 m20 m21 m22 m30 m31 m32
  have hres1 : Res m r1 := by rw [← Hr1.out]; exact res_split m a
  have hres2 : Res m r2 := by rw [← Hr2.out]; exact res_merge m a
  have hres3 : Res m r3 := by rw [← Hr3.out]; exact res_move m a nd
  have hgs := Blk.new x3 26 #[.int .i64 r1.1.v, .int .i64 r1.1.n, .slice A1 k1 c1, .int .i64 r2.1.v, .int .i64 r2.1.n, .slice A2 k2 c2, .int .i64 r3.1.v, .int .i64 r3.1.n, .slice A3 k3 c3] (g := b3 + 1) hz3.symm
  have hal := (Below.refl x3.heap.size x3).alloc (Nat.le_refl _) (.cells #[.int .i64 r1.1.v, .int .i64 r1.1.n, .slice A1 k1 c1, .int .i64 r2.1.v, .int .i64 r2.1.n, .slice A2 k2 c2, .int .i64 r3.1.v, .int .i64 r3.1.n, .slice A3 k3 c3] 26)
  replace hbk := hbk.keep hal
  replace hbx := below_step hbx hal (by omega)
  replace g1 := g1.below hal
  replace g2 := g2.below hal
  replace g3 := g3.below hal
  clear hal hs1 hs2 hs3 hm1
  clear hz1 hz2 hz3 hw1 hw2 hw3
  generalize (x3.alloc (.cells #[.int .i64 r1.1.v, .int .i64 r1.1.n, .slice A1 k1 c1, .int .i64 r2.1.v, .int .i64 r2.1.n, .slice A2 k2 c2, .int .i64 r3.1.v, .int .i64 r3.1.n, .slice A3 k3 c3] 26)) = x4 at *
  go_loopw [42] (fun iv wr => ∃ i : Nat, i ≤ 3 ∧ iv = .int .i64 (i : Int) ∧ Below w.heap.size w wr ∧ Below x4.heap.size x4 wr) (fun iv _ => 3 - (intOf iv).toNat)
  case atStart => exact ⟨0, Nat.zero_le _, rfl, hbx, Below.refl _ _⟩
  case round =>
    obtain ⟨i, hi, rfl, hB, hb⟩ := hrel
    clear hbx
    have hbs := hB.size
    have hg0 := (hgs.keep hb).cell (j := 0) rfl
    have hg1 := (hgs.keep hb).cell (j := 1) rfl
    have hg2 := (hgs.keep hb).cell (j := 2) rfl
    have hg3 := (hgs.keep hb).cell (j := 3) rfl
    have hg4 := (hgs.keep hb).cell (j := 4) rfl
    have hg5 := (hgs.keep hb).cell (j := 5) rfl
    have hg6 := (hgs.keep hb).cell (j := 6) rfl
    have hg7 := (hgs.keep hb).cell (j := 7) rfl
    have hg8 := (hgs.keep hb).cell (j := 8) rfl
    by_cases hlt : i < 3
    · obtain rfl | rfl | rfl : i = 0 ∨ i = 1 ∨ i = 2 := by omega
      · have hX := (Blk.new wr 26 #[.int .i64 r1.1.v, .int .i64 r1.1.n, .slice A1 k1 c1] rfl).alloc (.cells #[.int .i64 r1.2, .int .i64 r2.2, .int .i64 r3.2] 27)
        have hal : Below wr.heap.size wr ((wr.alloc (mo r1.1 A1 k1 c1)).alloc (.cells #[.int .i64 r1.2, .int .i64 r2.2, .int .i64 r3.2] 27)) := ((Below.refl wr.heap.size wr).alloc (Nat.le_refl _) _).alloc (by simp) _
        have hmy := (g1.below hb).below hal
        have hby := (hbk.keep hb).keep hal
        have hBy := below_step hB hal (by omega)
        have hBx := below_step hb hal (by omega)
        by_cases he : r1.2 = 0
        · have t0 : (r1.2 == 0) = true := by simp [he]
          have hmade := hres1.ok he
          have hrr := (right_is hmade.right).1
          have hvv := hmade.v
          have hw : IntKind.i64.wrap (m.v + 1) = m.v + 1 := by rw [IntKind.wrap_i64]; omega
          have t1 : (r1.1.v != m.v + 1) = false := by simp [hmade.v]
          have t2 : (r1.1.n != m.n) = false := by simp [hmade.n]
          have Hmr := Lib.hid hmade.right
          clear hmade hrr hvv he
          go_wp2_with fail
          generalize ((wr.alloc (mo r1.1 A1 k1 c1)).alloc (.cells #[.int .i64 r1.2, .int .i64 r2.2, .int .i64 r3.2] 27)) = y at *
          refine (ours_ _ r1.1 A1 k1 c1).mono ?_
          rintro e y2 ⟨rfl, hb2⟩
          simp only [mv]
          go_wp2_with fail
          refine (rright_ _ r1.1 A1 k1 c1 (hmy.below hb2)).mono ?_
          rw [Hmr.out]
          rintro e y3 ⟨rfl, hb3⟩
          obtain ⟨a0, a1, a2, -, -, -⟩ := cells3 ((hX.keep hb2).keep hb3)
          obtain ⟨e0, e1, e2, -, -, -⟩ := cells3 ((hby.keep hb2).keep hb3)
          clear hX hby
          go_wp2
          go_roundw
          case rel => exact ⟨1, by omega, by go_num, below_step (below_step hBy hb2 (by omega)) hb3 (by omega), below_step (below_step hBx hb2 (by omega)) hb3 (by omega)⟩
          case measure => simp [intOf]
        · have t0 : (r1.2 == 0) = false := by simp [he]
          have Hz := Lib.hid (hres1.er he)
          clear he
          go_wp2_with fail
          generalize ((wr.alloc (mo r1.1 A1 k1 c1)).alloc (.cells #[.int .i64 r1.2, .int .i64 r2.2, .int .i64 r3.2] 27)) = y at *
          refine (ours_ _ r1.1 A1 k1 c1).mono ?_
          rintro e y2 ⟨rfl, hb2⟩
          simp only [mv]
          go_wp2_with fail
          refine (rsame_ _ r1.1 zM A1 none k1 0 c1 0 (hmy.below hb2) (mr_zero _)).mono ?_
          rintro e y3 ⟨he3, hb3⟩
          rw [Hz.out, sameM_refl] at he3
          subst he3
          go_wp2
          go_roundw
          case rel => exact ⟨1, by omega, by go_num, below_step (below_step hBy hb2 (by omega)) hb3 (by omega), below_step (below_step hBx hb2 (by omega)) hb3 (by omega)⟩
          case measure => simp [intOf]
      · have hX := (Blk.new wr 26 #[.int .i64 r2.1.v, .int .i64 r2.1.n, .slice A2 k2 c2] rfl).alloc (.cells #[.int .i64 r1.2, .int .i64 r2.2, .int .i64 r3.2] 27)
        have hal : Below wr.heap.size wr ((wr.alloc (mo r2.1 A2 k2 c2)).alloc (.cells #[.int .i64 r1.2, .int .i64 r2.2, .int .i64 r3.2] 27)) := ((Below.refl wr.heap.size wr).alloc (Nat.le_refl _) _).alloc (by simp) _
        have hmy := (g2.below hb).below hal
        have hby := (hbk.keep hb).keep hal
        have hBy := below_step hB hal (by omega)
        have hBx := below_step hb hal (by omega)
        by_cases he : r2.2 = 0
        · have t0 : (r2.2 == 0) = true := by simp [he]
          have hmade := hres2.ok he
          have hrr := (right_is hmade.right).1
          have hvv := hmade.v
          have hw : IntKind.i64.wrap (m.v + 1) = m.v + 1 := by rw [IntKind.wrap_i64]; omega
          have t1 : (r2.1.v != m.v + 1) = false := by simp [hmade.v]
          have t2 : (r2.1.n != m.n) = false := by simp [hmade.n]
          have Hmr := Lib.hid hmade.right
          clear hmade hrr hvv he
          go_wp2_with fail
          generalize ((wr.alloc (mo r2.1 A2 k2 c2)).alloc (.cells #[.int .i64 r1.2, .int .i64 r2.2, .int .i64 r3.2] 27)) = y at *
          refine (ours_ _ r2.1 A2 k2 c2).mono ?_
          rintro e y2 ⟨rfl, hb2⟩
          simp only [mv]
          go_wp2_with fail
          refine (rright_ _ r2.1 A2 k2 c2 (hmy.below hb2)).mono ?_
          rw [Hmr.out]
          rintro e y3 ⟨rfl, hb3⟩
          obtain ⟨a0, a1, a2, -, -, -⟩ := cells3 ((hX.keep hb2).keep hb3)
          obtain ⟨e0, e1, e2, -, -, -⟩ := cells3 ((hby.keep hb2).keep hb3)
          clear hX hby
          go_wp2
          go_roundw
          case rel => exact ⟨2, by omega, by go_num, below_step (below_step hBy hb2 (by omega)) hb3 (by omega), below_step (below_step hBx hb2 (by omega)) hb3 (by omega)⟩
          case measure => simp [intOf]
        · have t0 : (r2.2 == 0) = false := by simp [he]
          have Hz := Lib.hid (hres2.er he)
          clear he
          go_wp2_with fail
          generalize ((wr.alloc (mo r2.1 A2 k2 c2)).alloc (.cells #[.int .i64 r1.2, .int .i64 r2.2, .int .i64 r3.2] 27)) = y at *
          refine (ours_ _ r2.1 A2 k2 c2).mono ?_
          rintro e y2 ⟨rfl, hb2⟩
          simp only [mv]
          go_wp2_with fail
          refine (rsame_ _ r2.1 zM A2 none k2 0 c2 0 (hmy.below hb2) (mr_zero _)).mono ?_
          rintro e y3 ⟨he3, hb3⟩
          rw [Hz.out, sameM_refl] at he3
          subst he3
          go_wp2
          go_roundw
          case rel => exact ⟨2, by omega, by go_num, below_step (below_step hBy hb2 (by omega)) hb3 (by omega), below_step (below_step hBx hb2 (by omega)) hb3 (by omega)⟩
          case measure => simp [intOf]
      · have hX := (Blk.new wr 26 #[.int .i64 r3.1.v, .int .i64 r3.1.n, .slice A3 k3 c3] rfl).alloc (.cells #[.int .i64 r1.2, .int .i64 r2.2, .int .i64 r3.2] 27)
        have hal : Below wr.heap.size wr ((wr.alloc (mo r3.1 A3 k3 c3)).alloc (.cells #[.int .i64 r1.2, .int .i64 r2.2, .int .i64 r3.2] 27)) := ((Below.refl wr.heap.size wr).alloc (Nat.le_refl _) _).alloc (by simp) _
        have hmy := (g3.below hb).below hal
        have hby := (hbk.keep hb).keep hal
        have hBy := below_step hB hal (by omega)
        have hBx := below_step hb hal (by omega)
        by_cases he : r3.2 = 0
        · have t0 : (r3.2 == 0) = true := by simp [he]
          have hmade := hres3.ok he
          have hrr := (right_is hmade.right).1
          have hvv := hmade.v
          have hw : IntKind.i64.wrap (m.v + 1) = m.v + 1 := by rw [IntKind.wrap_i64]; omega
          have t1 : (r3.1.v != m.v + 1) = false := by simp [hmade.v]
          have t2 : (r3.1.n != m.n) = false := by simp [hmade.n]
          have Hmr := Lib.hid hmade.right
          clear hmade hrr hvv he
          go_wp2_with fail
          generalize ((wr.alloc (mo r3.1 A3 k3 c3)).alloc (.cells #[.int .i64 r1.2, .int .i64 r2.2, .int .i64 r3.2] 27)) = y at *
          refine (ours_ _ r3.1 A3 k3 c3).mono ?_
          rintro e y2 ⟨rfl, hb2⟩
          simp only [mv]
          go_wp2_with fail
          refine (rright_ _ r3.1 A3 k3 c3 (hmy.below hb2)).mono ?_
          rw [Hmr.out]
          rintro e y3 ⟨rfl, hb3⟩
          obtain ⟨a0, a1, a2, -, -, -⟩ := cells3 ((hX.keep hb2).keep hb3)
          obtain ⟨e0, e1, e2, -, -, -⟩ := cells3 ((hby.keep hb2).keep hb3)
          clear hX hby
          go_wp2
          go_roundw
          case rel => exact ⟨3, by omega, by go_num, below_step (below_step hBy hb2 (by omega)) hb3 (by omega), below_step (below_step hBx hb2 (by omega)) hb3 (by omega)⟩
          case measure => simp [intOf]
        · have t0 : (r3.2 == 0) = false := by simp [he]
          have Hz := Lib.hid (hres3.er he)
          clear he
          go_wp2_with fail
          generalize ((wr.alloc (mo r3.1 A3 k3 c3)).alloc (.cells #[.int .i64 r1.2, .int .i64 r2.2, .int .i64 r3.2] 27)) = y at *
          refine (ours_ _ r3.1 A3 k3 c3).mono ?_
          rintro e y2 ⟨rfl, hb2⟩
          simp only [mv]
          go_wp2_with fail
          refine (rsame_ _ r3.1 zM A3 none k3 0 c3 0 (hmy.below hb2) (mr_zero _)).mono ?_
          rintro e y3 ⟨he3, hb3⟩
          rw [Hz.out, sameM_refl] at he3
          subst he3
          go_wp2
          go_roundw
          case rel => exact ⟨3, by omega, by go_num, below_step (below_step hBy hb2 (by omega)) hb3 (by omega), below_step (below_step hBx hb2 (by omega)) hb3 (by omega)⟩
          case measure => simp [intOf]
    · have hin : ¬ (i : Int) < 3 := by omega
      go_wp2_with fail
      refine (alive_ _).mono ?_
      rintro e y ⟨rfl, hby⟩
      go_wp2
      go_ret
      exact ⟨rfl, below_step hB hby (by omega)⟩
end
end Sma
open Sma

set_option maxRecDepth 100000 in
theorem smapOne_lifted (os : Os) (started : os.Started) (H : Type) (enc : TypeId × Value → H) :
    ReturnsInHanded {} Try.checked os 6 .any (Rows.smapOneSpec.pre6 enc Try.prog Try.f6 Rows.smapOneRow.domain false) (Rows.smapOneSpec.post enc Try.prog Try.f6 false true false false) := by
  refine law_lifted (C := Try.checked) (tb := 4) own_ started (by kernel_rfl) Try.func6
    (ChangeSpec.witness6 (enc := enc) (C := Try.checked) false ⟨#[], #[.agg #[.int .i64 0, .int .i64 0, .slice none 0 0], .int .i64 0, .int .i64 0], []⟩ 8 (by kernel_rfl) (by kernel_rfl) (by kernel_rfl) (by kernel_rfl))
    rfl rfl Try.underlying4 laidOut_ (by kernel_rfl) (fun ds h => by match ds, h with | [_, _, _], _ => rfl) ?_
  intro W base args ds p hval0 hA0 _ hsz0
  have hval : ∀ (j : Nat) t v, Try.f6.params[j]? = some t → args[j]? = some v → Value.okWide Try.prog W .any base t v := hval0
  have hA : DataW.TrodAll enc Try.prog W 0 (fun _ => true) true Try.f6.params.toList args.toList ds p := hA0
  have hsz : (DataW.weightsEach Try.prog Try.f6.params.toList ds).all (· ≤ reachBytes) = true := hsz0
  clear hval0 hA0 hsz0
  rw [Try.params6] at hA hval hsz
  obtain ⟨v0, v1, v2, d0, d1, d2, p0, p1, p2, rfl, rfl, rfl, h0, h1, h2⟩ := trodAll_three hA
  obtain ⟨cs0, a0, rfl, r0, b0⟩ := arg_struct ops_mp Try.underlying25 (hval 0 _ v0 rfl rfl) h0 (weight_at hsz (j := 0) rfl rfl)
  obtain ⟨z1, rfl, hz1⟩ := arg_int _ _ Try.underlying3 (hval 1 _ v1 rfl rfl) h1 wf_i64
  obtain ⟨z2, rfl, hz2⟩ := arg_int _ _ Try.underlying3 (hval 2 _ v2 rfl rfl) h2 wf_i64
  exact by
    obtain ⟨A0, k0, c0, rfl, hm, -⟩ := mp_arr r0
    exact one_walk W (toMp a0) A0 k0 c0 hm z1 z2 hz1 hz2

/-- SmapOne, for every input: the statement as it was given. -/
theorem smapOne_holds : Rows.SmapOneSaid :=
  OpenClaim.holds_of_wide 6 Try.f6 rfl rfl rfl rfl rfl rfl rfl ⟨rfl, rfl, rfl, rfl, rfl⟩ rfl rfl rfl rfl rfl (by kernel_rfl) Try.func6 (by kernel_rfl)
    (of_decide_eq_true (by kernel_rfl)) (by unfold Func.isWrapper; first | (rw [if_pos (by decide +kernel)]; kernel_rfl) | (rw [if_neg (by decide +kernel)]; exact ⟨rfl, rfl⟩))
    (fun os started H enc _ => smapOne_lifted os started H enc)
end Go.Proofs.Ytncapionioeieaa
