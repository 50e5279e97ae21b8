/- Proves SmapNodes of layer 13 (smap), for every input, with no condition: Split turns no block's node, nor does Merge; Move that of its piece's blocks alone. Printed by wip/tools/gensmand.py. -/
import Derived.Test.YtncapionioeieaaSmaAr
import Derived.Test.YtncapionioeieaaSmaG
import Derived.Test.YtncapionioeieaaSmaH
set_option linter.all false
namespace Go.Proofs.Ytncapionioeieaa
open Go.ChangeShapes Go.WideShapes Go.ChangeAt Go.RowKit
namespace Sma

theorem move_in {m x : Mp} {a nd : Int} (h : moveA m a nd = (x, 0)) : ∃ pre p post, At m a pre p post := by
  obtain ⟨_, _, pre, p, post, hat, _⟩ := move_ok h
  exact ⟨pre, p, post, hat⟩
section
variable (w : World)
set_option maxRecDepth 100000 in
set_option maxHeartbeats 8000000 in
theorem nodes_walk (m : Mp) (A : Option Addr) (k c : Nat) (h : Mr w m A k c) (a nd : Int) (ha : I64 a) (hnd : I64 nd) : Calls Try.prog 7 #[mv m A k c, .int .i64 a, .int .i64 nd] w fun e w' => e = .returned (.bool true) ∧ Below w.heap.size w w' := by
  have hbx := (Below.refl w.heap.size w).alloc (Nat.le_refl _) (rmo m A k c)
  have hm1 := h.below hbx
  have hbk := Blk.new w 25 #[.int .i64 m.v, .int .i64 m.n, .slice A k c] rfl
  have hv := h.v
  have hn := h.n
  have hndI := hnd
  unfold I64 at hv hn hndI
  simp only [mv]
  clear h
  cases hr : m.right with
  | false =>
    go_enter Try.func7, Try.ntmps7
    go_wp2_with fail
    refine (rright_ _ m A k c hm1).mono ?_
    rw [hr]
    rintro e v1 ⟨rfl, hb⟩
    go_wp2_with fail
    refine (alive_ _).mono ?_
    rintro e v2 ⟨rfl, hb2⟩
    go_wp2
    go_ret
    exact ⟨rfl, below_step (below_step hbx hb (by omega)) hb2 (by omega)⟩
  | true =>
    obtain ⟨r1, hr1⟩ : ∃ r, splitA m a = r := ⟨_, rfl⟩
    obtain ⟨r2, hr2⟩ : ∃ r, mergeA m a = r := ⟨_, rfl⟩
    obtain ⟨r3, hr3⟩ : ∃ r, moveA m a nd = r := ⟨_, rfl⟩
    have Hr1 := Lib.hid hr1
    have Hr2 := Lib.hid hr2
    have Hr3 := Lib.hid hr3
    clear hr1 hr2 hr3
    go_enter Try.func7, Try.ntmps7
    go_wp2_with fail
    generalize (w.alloc (rmo m A k c)) = v0 at *
    refine (rright_ _ m A k c hm1).mono ?_
    rw [hr]
    rintro e vr ⟨rfl, hb⟩
    replace hm1 := hm1.below hb
    replace hbk := hbk.keep hb
    replace hbx := below_step hbx hb (by omega)
    obtain ⟨d0, d1, d2, -, -, -⟩ := cells3 hbk
    clear hb
    go_wp2_with fail
    refine (theirs_ _ m A k c).mono ?_
    rintro e u1 ⟨rfl, hb⟩
    replace hm1 := hm1.below hb
    replace hbk := hbk.keep hb
    replace hbx := below_step hbx hb (by omega)
    clear hb d0 d1 d2
    simp only [mv]
    go_wp2_with fail
    refine (split_ _ m A k c hm1 a ha).mono ?_
    rw [Hr1.out]
    rintro e v1 ⟨A1, k1, c1, rfl, g1, hb⟩
    have hal := (Below.refl v1.heap.size v1).alloc (Nat.le_refl _) (mo r1.1 A1 k1 c1)
    have hs1 := Blk.new v1 26 #[.int .i64 r1.1.v, .int .i64 r1.1.n, .slice A1 k1 c1] rfl
    replace hm1 := (hm1.below hb).below hal
    replace hbk := (hbk.keep hb).keep hal
    replace hbx := below_step (below_step hbx hb (by omega)) hal (by omega)
    replace g1 := g1.mr.below hal
    have hz1 : (v1.alloc (mo r1.1 A1 k1 c1)).heap.size = v1.heap.size + 1 := by simp
    clear hb hal
    simp only [mv]
    obtain ⟨d0, d1, d2, -, -, -⟩ := cells3 hbk
    go_wp2_with fail
    generalize hw1 : v1.heap.size = b1 at *
    generalize (v1.alloc (mo r1.1 A1 k1 c1)) = x1 at *
    refine (theirs_ _ m A k c).mono ?_
    rintro e u2 ⟨rfl, hb⟩
    replace hm1 := hm1.below hb
    replace hbk := hbk.keep hb
    replace hbx := below_step hbx hb (by omega)
    replace hs1 := hs1.keep hb
    replace g1 := g1.below hb
    clear hb d0 d1 d2
    simp only [mv]
    go_wp2_with fail
    refine (merge_ _ m A k c hm1 a ha).mono ?_
    rw [Hr2.out]
    rintro e v2 ⟨A2, k2, c2, rfl, g2, hb⟩
    have hal := (Below.refl v2.heap.size v2).alloc (Nat.le_refl _) (mo r2.1 A2 k2 c2)
    have hs2 := Blk.new v2 26 #[.int .i64 r2.1.v, .int .i64 r2.1.n, .slice A2 k2 c2] rfl
    replace hm1 := (hm1.below hb).below hal
    replace hbk := (hbk.keep hb).keep hal
    replace hbx := below_step (below_step hbx hb (by omega)) hal (by omega)
    replace hs1 := (hs1.keep hb).keep hal
    replace g1 := (g1.below hb).below hal
    replace g2 := g2.mr.below hal
    have hz2 : (v2.alloc (mo r2.1 A2 k2 c2)).heap.size = v2.heap.size + 1 := by simp
    clear hb hal
    simp only [mv]
    obtain ⟨d0, d1, d2, -, -, -⟩ := cells3 hbk
    go_wp2_with fail
    generalize hw2 : v2.heap.size = b2 at *
    generalize (v2.alloc (mo r2.1 A2 k2 c2)) = x2 at *
    refine (theirs_ _ m A k c).mono ?_
    rintro e u3 ⟨rfl, hb⟩
    replace hm1 := hm1.below hb
    replace hbk := hbk.keep hb
    replace hbx := below_step hbx hb (by omega)
    replace hs1 := hs1.keep hb
    replace g1 := g1.below hb
    replace hs2 := hs2.keep hb
    replace g2 := g2.below hb
    clear hb d0 d1 d2
    simp only [mv]
    go_wp2_with fail
    refine (move_ _ m A k c hm1 a nd ha hnd).mono ?_
    rw [Hr3.out]
    rintro e v3 ⟨A3, k3, c3, rfl, g3, hb⟩
    have hal := (Below.refl v3.heap.size v3).alloc (Nat.le_refl _) (mo r3.1 A3 k3 c3)
    have hs3 := Blk.new v3 26 #[.int .i64 r3.1.v, .int .i64 r3.1.n, .slice A3 k3 c3] rfl
    replace hm1 := (hm1.below hb).below hal
    replace hbk := (hbk.keep hb).keep hal
    replace hbx := below_step (below_step hbx hb (by omega)) hal (by omega)
    replace hs1 := (hs1.keep hb).keep hal
    replace g1 := (g1.below hb).below hal
    replace hs2 := (hs2.keep hb).keep hal
    replace g2 := (g2.below hb).below hal
    replace g3 := g3.mr.below hal
    have hz3 : (v3.alloc (mo r3.1 A3 k3 c3)).heap.size = v3.heap.size + 1 := by simp
    clear hb hal
    simp only [mv]
    obtain ⟨d0, d1, d2, -, -, -⟩ := cells3 hbk
    go_wp2_with fail
    generalize hw3 : v3.heap.size = b3 at *
    generalize (v3.alloc (mo r3.1 A3 k3 c3)) = x3 at *
    clear d0 d1 d2
    have hmn := (right_is hr).2.1
    obtain ⟨N, hN⟩ := Int.eq_ofNat_of_zero_le (show 0 ≤ m.n by omega)
    clear hz1 hz2 hz3 hw1 hw2 hw3
    go_loopw [46] (fun iv wr => ∃ i : Nat, i ≤ N ∧ iv = .int .i64 (i : Int) ∧ Below w.heap.size w wr ∧ Below x3.heap.size x3 wr) (fun iv _ => N - (intOf iv).toNat)
    case atStart => exact ⟨0, Nat.zero_le _, rfl, hbx, Below.refl _ _⟩
    case round =>
      obtain ⟨i, hi, rfl, pB, pb⟩ := hrel
      clear hbx
      have pbk := hbk.keep pb
      have ps1 := hs1.keep pb
      have ps2 := hs2.keep pb
      have ps3 := hs3.keep pb
      have pg1 := g1.below pb
      have pg2 := g2.below pb
      have pg3 := g3.below pb
      have pm := hm1.below pb
      clear hbk hs1 hs2 hs3 g1 g2 g3 hm1
      obtain ⟨d0, d1, d2, -, -, -⟩ := cells3 pbk
      obtain ⟨m10, m11, m12, -, -, -⟩ := cells3 ps1
      obtain ⟨m20, m21, m22, -, -, -⟩ := cells3 ps2
      obtain ⟨m30, m31, m32, -, -, -⟩ := cells3 ps3
      by_cases hlt : i < N
      · have hin : (i : Int) < m.n := by omega
        have hi0 : (0 : Int) ≤ (i : Int) := by omega
        have HN := Lib.hid hN
        clear hN
        obtain ⟨W, hW⟩ : ∃ W, nodeL (i : Int) m.ps = W := ⟨_, rfl⟩
        have HW := Lib.hid hW
        have tW : (W != W) = false := by simp
        clear hW
        go_wp2_with fail
        refine (rnodeOf_ _ m A k c pm hr (i : Int) hi0 hin).mono ?_
        rintro e y1 ⟨he9, hy⟩
        rw [HW.out] at he9
        subst he9
        replace pbk := pbk.keep hy
        replace ps1 := ps1.keep hy
        replace ps2 := ps2.keep hy
        replace ps3 := ps3.keep hy
        replace pg1 := pg1.below hy
        replace pg2 := pg2.below hy
        replace pg3 := pg3.below hy
        replace pm := pm.below hy
        replace pB := below_step pB hy (Nat.le_refl _)
        replace pb := below_step pb hy (Nat.le_refl _)
        clear hy d0 d1 d2 m10 m11 m12 m20 m21 m22 m30 m31 m32
        obtain ⟨d0, d1, d2, -, -, -⟩ := cells3 pbk
        obtain ⟨m10, m11, m12, -, -, -⟩ := cells3 ps1
        obtain ⟨m20, m21, m22, -, -, -⟩ := cells3 ps2
        obtain ⟨m30, m31, m32, -, -, -⟩ := cells3 ps3
        simp only [mv]
        by_cases he : r1.2 = 0
        · have t1 : (r1.2 == 0) = true := by simp [he]
          have h1 : splitA m a = (r1.1, 0) := by rw [Hr1.out, ← he]
          have Hm1 := Lib.hid (split_made h1)
          have Hn1 := Lib.hid (fun i => split_node h1 i)
          clear h1 he
          go_wp2_with fail
          refine (ours_ _ r1.1 A1 k1 c1).mono ?_
          rintro e y2 ⟨he9, hy⟩
          subst he9
          replace pbk := pbk.keep hy
          replace ps1 := ps1.keep hy
          replace ps2 := ps2.keep hy
          replace ps3 := ps3.keep hy
          replace pg1 := pg1.below hy
          replace pg2 := pg2.below hy
          replace pg3 := pg3.below hy
          replace pm := pm.below hy
          replace pB := below_step pB hy (Nat.le_refl _)
          replace pb := below_step pb hy (Nat.le_refl _)
          clear hy d0 d1 d2 m10 m11 m12 m20 m21 m22 m30 m31 m32
          obtain ⟨d0, d1, d2, -, -, -⟩ := cells3 pbk
          obtain ⟨m10, m11, m12, -, -, -⟩ := cells3 ps1
          obtain ⟨m20, m21, m22, -, -, -⟩ := cells3 ps2
          obtain ⟨m30, m31, m32, -, -, -⟩ := cells3 ps3
          simp only [mv]
          go_wp2_with fail
          refine (rnodeOf_ _ r1.1 A1 k1 c1 pg1 Hm1.out.right (i : Int) hi0 (by rw [Hm1.out.n]; exact hin)).mono ?_
          rintro e y3 ⟨he9, hy⟩
          rw [Hn1.out (i : Int), HW.out] at he9
          subst he9
          replace pbk := pbk.keep hy
          replace ps1 := ps1.keep hy
          replace ps2 := ps2.keep hy
          replace ps3 := ps3.keep hy
          replace pg1 := pg1.below hy
          replace pg2 := pg2.below hy
          replace pg3 := pg3.below hy
          replace pm := pm.below hy
          replace pB := below_step pB hy (Nat.le_refl _)
          replace pb := below_step pb hy (Nat.le_refl _)
          clear hy d0 d1 d2 m10 m11 m12 m20 m21 m22 m30 m31 m32
          obtain ⟨d0, d1, d2, -, -, -⟩ := cells3 pbk
          obtain ⟨m10, m11, m12, -, -, -⟩ := cells3 ps1
          obtain ⟨m20, m21, m22, -, -, -⟩ := cells3 ps2
          obtain ⟨m30, m31, m32, -, -, -⟩ := cells3 ps3
          simp only [mv]
          by_cases hf : r2.2 = 0
          · have t2 : (r2.2 == 0) = true := by simp [hf]
            have h2 : mergeA m a = (r2.1, 0) := by rw [Hr2.out, ← hf]
            have Hm2 := Lib.hid (merge_made h2)
            have Hn2 := Lib.hid (fun i => merge_node h2 i)
            clear h2 hf
            go_wp2_with fail
            refine (ours_ _ r2.1 A2 k2 c2).mono ?_
            rintro e y4 ⟨he9, hy⟩
            subst he9
            replace pbk := pbk.keep hy
            replace ps1 := ps1.keep hy
            replace ps2 := ps2.keep hy
            replace ps3 := ps3.keep hy
            replace pg1 := pg1.below hy
            replace pg2 := pg2.below hy
            replace pg3 := pg3.below hy
            replace pm := pm.below hy
            replace pB := below_step pB hy (Nat.le_refl _)
            replace pb := below_step pb hy (Nat.le_refl _)
            clear hy d0 d1 d2 m10 m11 m12 m20 m21 m22 m30 m31 m32
            obtain ⟨d0, d1, d2, -, -, -⟩ := cells3 pbk
            obtain ⟨m10, m11, m12, -, -, -⟩ := cells3 ps1
            obtain ⟨m20, m21, m22, -, -, -⟩ := cells3 ps2
            obtain ⟨m30, m31, m32, -, -, -⟩ := cells3 ps3
            simp only [mv]
            go_wp2_with fail
            refine (rnodeOf_ _ r2.1 A2 k2 c2 pg2 Hm2.out.right (i : Int) hi0 (by rw [Hm2.out.n]; exact hin)).mono ?_
            rintro e y5 ⟨he9, hy⟩
            rw [Hn2.out (i : Int), HW.out] at he9
            subst he9
            replace pbk := pbk.keep hy
            replace ps1 := ps1.keep hy
            replace ps2 := ps2.keep hy
            replace ps3 := ps3.keep hy
            replace pg1 := pg1.below hy
            replace pg2 := pg2.below hy
            replace pg3 := pg3.below hy
            replace pm := pm.below hy
            replace pB := below_step pB hy (Nat.le_refl _)
            replace pb := below_step pb hy (Nat.le_refl _)
            clear hy d0 d1 d2 m10 m11 m12 m20 m21 m22 m30 m31 m32
            obtain ⟨d0, d1, d2, -, -, -⟩ := cells3 pbk
            obtain ⟨m10, m11, m12, -, -, -⟩ := cells3 ps1
            obtain ⟨m20, m21, m22, -, -, -⟩ := cells3 ps2
            obtain ⟨m30, m31, m32, -, -, -⟩ := cells3 ps3
            simp only [mv]
            by_cases hg : r3.2 = 0
            · have t3 : (r3.2 != 0) = false := by simp [hg]
              have h3 : moveA m a nd = (r3.1, 0) := by rw [Hr3.out, ← hg]
              obtain ⟨pre, p, post, hat⟩ := move_in h3
              have Hm3 := Lib.hid (move_made h3)
              have Hn3 := Lib.hid (fun i => move_node h3 hat i)
              obtain ⟨b, o, rfl, hik, fp, -, -, -⟩ := at_cells pm hat.get
              obtain ⟨ff, fe, fn⟩ := fp.all
              obtain ⟨j, hj⟩ : ∃ j, pre.length = j := ⟨_, rfl⟩
              have Hf := Lib.hid (show findA m a = ((j : Int), 0) by rw [find_at hr hat, hj])
              have Hget := Lib.hid (show m.ps[j]? = some p by rw [← hj]; exact hat.get)
              rw [hj] at hik
              have hj0 : (0 : Int) ≤ (j : Int) := by omega
              have hjK : (j : Int) < (k : Int) := by omega
              have tn : (nd != nd) = false := by simp
              clear hat hj h3 hg
              go_wp2_with fail
              refine (rfind_ _ m _ k c pm a ha).mono ?_
              rw [Hf.out]
              rintro e y6 ⟨he9, hy⟩
              subst he9
              replace pbk := pbk.keep hy
              replace ps1 := ps1.keep hy
              replace ps2 := ps2.keep hy
              replace ps3 := ps3.keep hy
              replace pg1 := pg1.below hy
              replace pg2 := pg2.below hy
              replace pg3 := pg3.below hy
              replace pm := pm.below hy
              replace pB := below_step pB hy (Nat.le_refl _)
              replace pb := below_step pb hy (Nat.le_refl _)
              clear hy d0 d1 d2 m10 m11 m12 m20 m21 m22 m30 m31 m32
              obtain ⟨d0, d1, d2, -, -, -⟩ := cells3 pbk
              obtain ⟨m10, m11, m12, -, -, -⟩ := cells3 ps1
              obtain ⟨m20, m21, m22, -, -, -⟩ := cells3 ps2
              obtain ⟨m30, m31, m32, -, -, -⟩ := cells3 ps3
              simp only
              obtain ⟨b', o', e', -, -, p0, p1, p2⟩ := at_cells pm Hget.out
              injection e' with e'
              injection e' with e1 e2
              subst e1 e2
              by_cases hq0 : p.fr ≤ (i : Int)
              · by_cases hq1 : (i : Int) < p.en
                · have HC := Lib.hid (show p.fr ≤ (i : Int) ∧ (i : Int) < p.en from ⟨hq0, hq1⟩)
                  go_wp2_with fail
                  refine (ours_ _ r3.1 A3 k3 c3).mono ?_
                  rintro e y7 ⟨he9, hy⟩
                  subst he9
                  replace pbk := pbk.keep hy
                  replace ps1 := ps1.keep hy
                  replace ps2 := ps2.keep hy
                  replace ps3 := ps3.keep hy
                  replace pg1 := pg1.below hy
                  replace pg2 := pg2.below hy
                  replace pg3 := pg3.below hy
                  replace pm := pm.below hy
                  replace pB := below_step pB hy (Nat.le_refl _)
                  replace pb := below_step pb hy (Nat.le_refl _)
                  clear hy d0 d1 d2 m10 m11 m12 m20 m21 m22 m30 m31 m32
                  obtain ⟨d0, d1, d2, -, -, -⟩ := cells3 pbk
                  obtain ⟨m10, m11, m12, -, -, -⟩ := cells3 ps1
                  obtain ⟨m20, m21, m22, -, -, -⟩ := cells3 ps2
                  obtain ⟨m30, m31, m32, -, -, -⟩ := cells3 ps3
                  simp only [mv]
                  go_wp2_with fail
                  refine (rnodeOf_ _ r3.1 A3 k3 c3 pg3 Hm3.out.right (i : Int) hi0 (by rw [Hm3.out.n]; exact hin)).mono ?_
                  rintro e y8 ⟨he9, hy⟩
                  rw [Hn3.out (i : Int)] at he9
                  rw [if_pos HC.out] at he9
                  subst he9
                  replace pbk := pbk.keep hy
                  replace ps1 := ps1.keep hy
                  replace ps2 := ps2.keep hy
                  replace ps3 := ps3.keep hy
                  replace pg1 := pg1.below hy
                  replace pg2 := pg2.below hy
                  replace pg3 := pg3.below hy
                  replace pm := pm.below hy
                  replace pB := below_step pB hy (Nat.le_refl _)
                  replace pb := below_step pb hy (Nat.le_refl _)
                  clear hy d0 d1 d2 m10 m11 m12 m20 m21 m22 m30 m31 m32
                  obtain ⟨d0, d1, d2, -, -, -⟩ := cells3 pbk
                  obtain ⟨m10, m11, m12, -, -, -⟩ := cells3 ps1
                  obtain ⟨m20, m21, m22, -, -, -⟩ := cells3 ps2
                  obtain ⟨m30, m31, m32, -, -, -⟩ := cells3 ps3
                  simp only [mv]
                  go_wp2_with fail
                  go_roundw
                  case rel => exact ⟨i + 1, by omega, by go_num, pB, pb⟩
                  case measure => simp [intOf]; omega
                · have HC := Lib.hid (show ¬ (p.fr ≤ (i : Int) ∧ (i : Int) < p.en) by omega)
                  go_wp2_with fail
                  refine (ours_ _ r3.1 A3 k3 c3).mono ?_
                  rintro e y9 ⟨he9, hy⟩
                  subst he9
                  replace pbk := pbk.keep hy
                  replace ps1 := ps1.keep hy
                  replace ps2 := ps2.keep hy
                  replace ps3 := ps3.keep hy
                  replace pg1 := pg1.below hy
                  replace pg2 := pg2.below hy
                  replace pg3 := pg3.below hy
                  replace pm := pm.below hy
                  replace pB := below_step pB hy (Nat.le_refl _)
                  replace pb := below_step pb hy (Nat.le_refl _)
                  clear hy d0 d1 d2 m10 m11 m12 m20 m21 m22 m30 m31 m32
                  obtain ⟨d0, d1, d2, -, -, -⟩ := cells3 pbk
                  obtain ⟨m10, m11, m12, -, -, -⟩ := cells3 ps1
                  obtain ⟨m20, m21, m22, -, -, -⟩ := cells3 ps2
                  obtain ⟨m30, m31, m32, -, -, -⟩ := cells3 ps3
                  simp only [mv]
                  go_wp2_with fail
                  refine (rnodeOf_ _ r3.1 A3 k3 c3 pg3 Hm3.out.right (i : Int) hi0 (by rw [Hm3.out.n]; exact hin)).mono ?_
                  rintro e y10 ⟨he9, hy⟩
                  rw [Hn3.out (i : Int)] at he9
                  rw [if_neg HC.out, HW.out] at he9
                  subst he9
                  replace pbk := pbk.keep hy
                  replace ps1 := ps1.keep hy
                  replace ps2 := ps2.keep hy
                  replace ps3 := ps3.keep hy
                  replace pg1 := pg1.below hy
                  replace pg2 := pg2.below hy
                  replace pg3 := pg3.below hy
                  replace pm := pm.below hy
                  replace pB := below_step pB hy (Nat.le_refl _)
                  replace pb := below_step pb hy (Nat.le_refl _)
                  clear hy d0 d1 d2 m10 m11 m12 m20 m21 m22 m30 m31 m32
                  obtain ⟨d0, d1, d2, -, -, -⟩ := cells3 pbk
                  obtain ⟨m10, m11, m12, -, -, -⟩ := cells3 ps1
                  obtain ⟨m20, m21, m22, -, -, -⟩ := cells3 ps2
                  obtain ⟨m30, m31, m32, -, -, -⟩ := cells3 ps3
                  simp only [mv]
                  go_wp2_with fail
                  go_roundw
                  case rel => exact ⟨i + 1, by omega, by go_num, pB, pb⟩
                  case measure => simp [intOf]; omega
              · have HC := Lib.hid (show ¬ (p.fr ≤ (i : Int) ∧ (i : Int) < p.en) by omega)
                go_wp2_with fail
                refine (ours_ _ r3.1 A3 k3 c3).mono ?_
                rintro e y11 ⟨he9, hy⟩
                subst he9
                replace pbk := pbk.keep hy
                replace ps1 := ps1.keep hy
                replace ps2 := ps2.keep hy
                replace ps3 := ps3.keep hy
                replace pg1 := pg1.below hy
                replace pg2 := pg2.below hy
                replace pg3 := pg3.below hy
                replace pm := pm.below hy
                replace pB := below_step pB hy (Nat.le_refl _)
                replace pb := below_step pb hy (Nat.le_refl _)
                clear hy d0 d1 d2 m10 m11 m12 m20 m21 m22 m30 m31 m32
                obtain ⟨d0, d1, d2, -, -, -⟩ := cells3 pbk
                obtain ⟨m10, m11, m12, -, -, -⟩ := cells3 ps1
                obtain ⟨m20, m21, m22, -, -, -⟩ := cells3 ps2
                obtain ⟨m30, m31, m32, -, -, -⟩ := cells3 ps3
                simp only [mv]
                go_wp2_with fail
                refine (rnodeOf_ _ r3.1 A3 k3 c3 pg3 Hm3.out.right (i : Int) hi0 (by rw [Hm3.out.n]; exact hin)).mono ?_
                rintro e y12 ⟨he9, hy⟩
                rw [Hn3.out (i : Int)] at he9
                rw [if_neg HC.out, HW.out] at he9
                subst he9
                replace pbk := pbk.keep hy
                replace ps1 := ps1.keep hy
                replace ps2 := ps2.keep hy
                replace ps3 := ps3.keep hy
                replace pg1 := pg1.below hy
                replace pg2 := pg2.below hy
                replace pg3 := pg3.below hy
                replace pm := pm.below hy
                replace pB := below_step pB hy (Nat.le_refl _)
                replace pb := below_step pb hy (Nat.le_refl _)
                clear hy d0 d1 d2 m10 m11 m12 m20 m21 m22 m30 m31 m32
                obtain ⟨d0, d1, d2, -, -, -⟩ := cells3 pbk
                obtain ⟨m10, m11, m12, -, -, -⟩ := cells3 ps1
                obtain ⟨m20, m21, m22, -, -, -⟩ := cells3 ps2
                obtain ⟨m30, m31, m32, -, -, -⟩ := cells3 ps3
                simp only [mv]
                go_wp2_with fail
                go_roundw
                case rel => exact ⟨i + 1, by omega, by go_num, pB, pb⟩
                case measure => simp [intOf]; omega
            · have t3 : (r3.2 != 0) = true := by simp [hg]
              clear hg
              go_wp2
              go_roundw
              case rel => exact ⟨i + 1, by omega, by go_num, pB, pb⟩
              case measure => simp [intOf]; omega
          · have t2 : (r2.2 == 0) = false := by simp [hf]
            clear hf
            by_cases hg : r3.2 = 0
            · have t3 : (r3.2 != 0) = false := by simp [hg]
              have h3 : moveA m a nd = (r3.1, 0) := by rw [Hr3.out, ← hg]
              obtain ⟨pre, p, post, hat⟩ := move_in h3
              have Hm3 := Lib.hid (move_made h3)
              have Hn3 := Lib.hid (fun i => move_node h3 hat i)
              obtain ⟨b, o, rfl, hik, fp, -, -, -⟩ := at_cells pm hat.get
              obtain ⟨ff, fe, fn⟩ := fp.all
              obtain ⟨j, hj⟩ : ∃ j, pre.length = j := ⟨_, rfl⟩
              have Hf := Lib.hid (show findA m a = ((j : Int), 0) by rw [find_at hr hat, hj])
              have Hget := Lib.hid (show m.ps[j]? = some p by rw [← hj]; exact hat.get)
              rw [hj] at hik
              have hj0 : (0 : Int) ≤ (j : Int) := by omega
              have hjK : (j : Int) < (k : Int) := by omega
              have tn : (nd != nd) = false := by simp
              clear hat hj h3 hg
              go_wp2_with fail
              refine (rfind_ _ m _ k c pm a ha).mono ?_
              rw [Hf.out]
              rintro e y13 ⟨he9, hy⟩
              subst he9
              replace pbk := pbk.keep hy
              replace ps1 := ps1.keep hy
              replace ps2 := ps2.keep hy
              replace ps3 := ps3.keep hy
              replace pg1 := pg1.below hy
              replace pg2 := pg2.below hy
              replace pg3 := pg3.below hy
              replace pm := pm.below hy
              replace pB := below_step pB hy (Nat.le_refl _)
              replace pb := below_step pb hy (Nat.le_refl _)
              clear hy d0 d1 d2 m10 m11 m12 m20 m21 m22 m30 m31 m32
              obtain ⟨d0, d1, d2, -, -, -⟩ := cells3 pbk
              obtain ⟨m10, m11, m12, -, -, -⟩ := cells3 ps1
              obtain ⟨m20, m21, m22, -, -, -⟩ := cells3 ps2
              obtain ⟨m30, m31, m32, -, -, -⟩ := cells3 ps3
              simp only
              obtain ⟨b', o', e', -, -, p0, p1, p2⟩ := at_cells pm Hget.out
              injection e' with e'
              injection e' with e1 e2
              subst e1 e2
              by_cases hq0 : p.fr ≤ (i : Int)
              · by_cases hq1 : (i : Int) < p.en
                · have HC := Lib.hid (show p.fr ≤ (i : Int) ∧ (i : Int) < p.en from ⟨hq0, hq1⟩)
                  go_wp2_with fail
                  refine (ours_ _ r3.1 A3 k3 c3).mono ?_
                  rintro e y14 ⟨he9, hy⟩
                  subst he9
                  replace pbk := pbk.keep hy
                  replace ps1 := ps1.keep hy
                  replace ps2 := ps2.keep hy
                  replace ps3 := ps3.keep hy
                  replace pg1 := pg1.below hy
                  replace pg2 := pg2.below hy
                  replace pg3 := pg3.below hy
                  replace pm := pm.below hy
                  replace pB := below_step pB hy (Nat.le_refl _)
                  replace pb := below_step pb hy (Nat.le_refl _)
                  clear hy d0 d1 d2 m10 m11 m12 m20 m21 m22 m30 m31 m32
                  obtain ⟨d0, d1, d2, -, -, -⟩ := cells3 pbk
                  obtain ⟨m10, m11, m12, -, -, -⟩ := cells3 ps1
                  obtain ⟨m20, m21, m22, -, -, -⟩ := cells3 ps2
                  obtain ⟨m30, m31, m32, -, -, -⟩ := cells3 ps3
                  simp only [mv]
                  go_wp2_with fail
                  refine (rnodeOf_ _ r3.1 A3 k3 c3 pg3 Hm3.out.right (i : Int) hi0 (by rw [Hm3.out.n]; exact hin)).mono ?_
                  rintro e y15 ⟨he9, hy⟩
                  rw [Hn3.out (i : Int)] at he9
                  rw [if_pos HC.out] at he9
                  subst he9
                  replace pbk := pbk.keep hy
                  replace ps1 := ps1.keep hy
                  replace ps2 := ps2.keep hy
                  replace ps3 := ps3.keep hy
                  replace pg1 := pg1.below hy
                  replace pg2 := pg2.below hy
                  replace pg3 := pg3.below hy
                  replace pm := pm.below hy
                  replace pB := below_step pB hy (Nat.le_refl _)
                  replace pb := below_step pb hy (Nat.le_refl _)
                  clear hy d0 d1 d2 m10 m11 m12 m20 m21 m22 m30 m31 m32
                  obtain ⟨d0, d1, d2, -, -, -⟩ := cells3 pbk
                  obtain ⟨m10, m11, m12, -, -, -⟩ := cells3 ps1
                  obtain ⟨m20, m21, m22, -, -, -⟩ := cells3 ps2
                  obtain ⟨m30, m31, m32, -, -, -⟩ := cells3 ps3
                  simp only [mv]
                  go_wp2_with fail
                  go_roundw
                  case rel => exact ⟨i + 1, by omega, by go_num, pB, pb⟩
                  case measure => simp [intOf]; omega
                · have HC := Lib.hid (show ¬ (p.fr ≤ (i : Int) ∧ (i : Int) < p.en) by omega)
                  go_wp2_with fail
                  refine (ours_ _ r3.1 A3 k3 c3).mono ?_
                  rintro e y16 ⟨he9, hy⟩
                  subst he9
                  replace pbk := pbk.keep hy
                  replace ps1 := ps1.keep hy
                  replace ps2 := ps2.keep hy
                  replace ps3 := ps3.keep hy
                  replace pg1 := pg1.below hy
                  replace pg2 := pg2.below hy
                  replace pg3 := pg3.below hy
                  replace pm := pm.below hy
                  replace pB := below_step pB hy (Nat.le_refl _)
                  replace pb := below_step pb hy (Nat.le_refl _)
                  clear hy d0 d1 d2 m10 m11 m12 m20 m21 m22 m30 m31 m32
                  obtain ⟨d0, d1, d2, -, -, -⟩ := cells3 pbk
                  obtain ⟨m10, m11, m12, -, -, -⟩ := cells3 ps1
                  obtain ⟨m20, m21, m22, -, -, -⟩ := cells3 ps2
                  obtain ⟨m30, m31, m32, -, -, -⟩ := cells3 ps3
                  simp only [mv]
                  go_wp2_with fail
                  refine (rnodeOf_ _ r3.1 A3 k3 c3 pg3 Hm3.out.right (i : Int) hi0 (by rw [Hm3.out.n]; exact hin)).mono ?_
                  rintro e y17 ⟨he9, hy⟩
                  rw [Hn3.out (i : Int)] at he9
                  rw [if_neg HC.out, HW.out] at he9
                  subst he9
                  replace pbk := pbk.keep hy
                  replace ps1 := ps1.keep hy
                  replace ps2 := ps2.keep hy
                  replace ps3 := ps3.keep hy
                  replace pg1 := pg1.below hy
                  replace pg2 := pg2.below hy
                  replace pg3 := pg3.below hy
                  replace pm := pm.below hy
                  replace pB := below_step pB hy (Nat.le_refl _)
                  replace pb := below_step pb hy (Nat.le_refl _)
                  clear hy d0 d1 d2 m10 m11 m12 m20 m21 m22 m30 m31 m32
                  obtain ⟨d0, d1, d2, -, -, -⟩ := cells3 pbk
                  obtain ⟨m10, m11, m12, -, -, -⟩ := cells3 ps1
                  obtain ⟨m20, m21, m22, -, -, -⟩ := cells3 ps2
                  obtain ⟨m30, m31, m32, -, -, -⟩ := cells3 ps3
                  simp only [mv]
                  go_wp2_with fail
                  go_roundw
                  case rel => exact ⟨i + 1, by omega, by go_num, pB, pb⟩
                  case measure => simp [intOf]; omega
              · have HC := Lib.hid (show ¬ (p.fr ≤ (i : Int) ∧ (i : Int) < p.en) by omega)
                go_wp2_with fail
                refine (ours_ _ r3.1 A3 k3 c3).mono ?_
                rintro e y18 ⟨he9, hy⟩
                subst he9
                replace pbk := pbk.keep hy
                replace ps1 := ps1.keep hy
                replace ps2 := ps2.keep hy
                replace ps3 := ps3.keep hy
                replace pg1 := pg1.below hy
                replace pg2 := pg2.below hy
                replace pg3 := pg3.below hy
                replace pm := pm.below hy
                replace pB := below_step pB hy (Nat.le_refl _)
                replace pb := below_step pb hy (Nat.le_refl _)
                clear hy d0 d1 d2 m10 m11 m12 m20 m21 m22 m30 m31 m32
                obtain ⟨d0, d1, d2, -, -, -⟩ := cells3 pbk
                obtain ⟨m10, m11, m12, -, -, -⟩ := cells3 ps1
                obtain ⟨m20, m21, m22, -, -, -⟩ := cells3 ps2
                obtain ⟨m30, m31, m32, -, -, -⟩ := cells3 ps3
                simp only [mv]
                go_wp2_with fail
                refine (rnodeOf_ _ r3.1 A3 k3 c3 pg3 Hm3.out.right (i : Int) hi0 (by rw [Hm3.out.n]; exact hin)).mono ?_
                rintro e y19 ⟨he9, hy⟩
                rw [Hn3.out (i : Int)] at he9
                rw [if_neg HC.out, HW.out] at he9
                subst he9
                replace pbk := pbk.keep hy
                replace ps1 := ps1.keep hy
                replace ps2 := ps2.keep hy
                replace ps3 := ps3.keep hy
                replace pg1 := pg1.below hy
                replace pg2 := pg2.below hy
                replace pg3 := pg3.below hy
                replace pm := pm.below hy
                replace pB := below_step pB hy (Nat.le_refl _)
                replace pb := below_step pb hy (Nat.le_refl _)
                clear hy d0 d1 d2 m10 m11 m12 m20 m21 m22 m30 m31 m32
                obtain ⟨d0, d1, d2, -, -, -⟩ := cells3 pbk
                obtain ⟨m10, m11, m12, -, -, -⟩ := cells3 ps1
                obtain ⟨m20, m21, m22, -, -, -⟩ := cells3 ps2
                obtain ⟨m30, m31, m32, -, -, -⟩ := cells3 ps3
                simp only [mv]
                go_wp2_with fail
                go_roundw
                case rel => exact ⟨i + 1, by omega, by go_num, pB, pb⟩
                case measure => simp [intOf]; omega
            · have t3 : (r3.2 != 0) = true := by simp [hg]
              clear hg
              go_wp2
              go_roundw
              case rel => exact ⟨i + 1, by omega, by go_num, pB, pb⟩
              case measure => simp [intOf]; omega
        · have t1 : (r1.2 == 0) = false := by simp [he]
          clear he
          by_cases hf : r2.2 = 0
          · have t2 : (r2.2 == 0) = true := by simp [hf]
            have h2 : mergeA m a = (r2.1, 0) := by rw [Hr2.out, ← hf]
            have Hm2 := Lib.hid (merge_made h2)
            have Hn2 := Lib.hid (fun i => merge_node h2 i)
            clear h2 hf
            go_wp2_with fail
            refine (ours_ _ r2.1 A2 k2 c2).mono ?_
            rintro e y20 ⟨he9, hy⟩
            subst he9
            replace pbk := pbk.keep hy
            replace ps1 := ps1.keep hy
            replace ps2 := ps2.keep hy
            replace ps3 := ps3.keep hy
            replace pg1 := pg1.below hy
            replace pg2 := pg2.below hy
            replace pg3 := pg3.below hy
            replace pm := pm.below hy
            replace pB := below_step pB hy (Nat.le_refl _)
            replace pb := below_step pb hy (Nat.le_refl _)
            clear hy d0 d1 d2 m10 m11 m12 m20 m21 m22 m30 m31 m32
            obtain ⟨d0, d1, d2, -, -, -⟩ := cells3 pbk
            obtain ⟨m10, m11, m12, -, -, -⟩ := cells3 ps1
            obtain ⟨m20, m21, m22, -, -, -⟩ := cells3 ps2
            obtain ⟨m30, m31, m32, -, -, -⟩ := cells3 ps3
            simp only [mv]
            go_wp2_with fail
            refine (rnodeOf_ _ r2.1 A2 k2 c2 pg2 Hm2.out.right (i : Int) hi0 (by rw [Hm2.out.n]; exact hin)).mono ?_
            rintro e y21 ⟨he9, hy⟩
            rw [Hn2.out (i : Int), HW.out] at he9
            subst he9
            replace pbk := pbk.keep hy
            replace ps1 := ps1.keep hy
            replace ps2 := ps2.keep hy
            replace ps3 := ps3.keep hy
            replace pg1 := pg1.below hy
            replace pg2 := pg2.below hy
            replace pg3 := pg3.below hy
            replace pm := pm.below hy
            replace pB := below_step pB hy (Nat.le_refl _)
            replace pb := below_step pb hy (Nat.le_refl _)
            clear hy d0 d1 d2 m10 m11 m12 m20 m21 m22 m30 m31 m32
            obtain ⟨d0, d1, d2, -, -, -⟩ := cells3 pbk
            obtain ⟨m10, m11, m12, -, -, -⟩ := cells3 ps1
            obtain ⟨m20, m21, m22, -, -, -⟩ := cells3 ps2
            obtain ⟨m30, m31, m32, -, -, -⟩ := cells3 ps3
            simp only [mv]
            by_cases hg : r3.2 = 0
            · have t3 : (r3.2 != 0) = false := by simp [hg]
              have h3 : moveA m a nd = (r3.1, 0) := by rw [Hr3.out, ← hg]
              obtain ⟨pre, p, post, hat⟩ := move_in h3
              have Hm3 := Lib.hid (move_made h3)
              have Hn3 := Lib.hid (fun i => move_node h3 hat i)
              obtain ⟨b, o, rfl, hik, fp, -, -, -⟩ := at_cells pm hat.get
              obtain ⟨ff, fe, fn⟩ := fp.all
              obtain ⟨j, hj⟩ : ∃ j, pre.length = j := ⟨_, rfl⟩
              have Hf := Lib.hid (show findA m a = ((j : Int), 0) by rw [find_at hr hat, hj])
              have Hget := Lib.hid (show m.ps[j]? = some p by rw [← hj]; exact hat.get)
              rw [hj] at hik
              have hj0 : (0 : Int) ≤ (j : Int) := by omega
              have hjK : (j : Int) < (k : Int) := by omega
              have tn : (nd != nd) = false := by simp
              clear hat hj h3 hg
              go_wp2_with fail
              refine (rfind_ _ m _ k c pm a ha).mono ?_
              rw [Hf.out]
              rintro e y22 ⟨he9, hy⟩
              subst he9
              replace pbk := pbk.keep hy
              replace ps1 := ps1.keep hy
              replace ps2 := ps2.keep hy
              replace ps3 := ps3.keep hy
              replace pg1 := pg1.below hy
              replace pg2 := pg2.below hy
              replace pg3 := pg3.below hy
              replace pm := pm.below hy
              replace pB := below_step pB hy (Nat.le_refl _)
              replace pb := below_step pb hy (Nat.le_refl _)
              clear hy d0 d1 d2 m10 m11 m12 m20 m21 m22 m30 m31 m32
              obtain ⟨d0, d1, d2, -, -, -⟩ := cells3 pbk
              obtain ⟨m10, m11, m12, -, -, -⟩ := cells3 ps1
              obtain ⟨m20, m21, m22, -, -, -⟩ := cells3 ps2
              obtain ⟨m30, m31, m32, -, -, -⟩ := cells3 ps3
              simp only
              obtain ⟨b', o', e', -, -, p0, p1, p2⟩ := at_cells pm Hget.out
              injection e' with e'
              injection e' with e1 e2
              subst e1 e2
              by_cases hq0 : p.fr ≤ (i : Int)
              · by_cases hq1 : (i : Int) < p.en
                · have HC := Lib.hid (show p.fr ≤ (i : Int) ∧ (i : Int) < p.en from ⟨hq0, hq1⟩)
                  go_wp2_with fail
                  refine (ours_ _ r3.1 A3 k3 c3).mono ?_
                  rintro e y23 ⟨he9, hy⟩
                  subst he9
                  replace pbk := pbk.keep hy
                  replace ps1 := ps1.keep hy
                  replace ps2 := ps2.keep hy
                  replace ps3 := ps3.keep hy
                  replace pg1 := pg1.below hy
                  replace pg2 := pg2.below hy
                  replace pg3 := pg3.below hy
                  replace pm := pm.below hy
                  replace pB := below_step pB hy (Nat.le_refl _)
                  replace pb := below_step pb hy (Nat.le_refl _)
                  clear hy d0 d1 d2 m10 m11 m12 m20 m21 m22 m30 m31 m32
                  obtain ⟨d0, d1, d2, -, -, -⟩ := cells3 pbk
                  obtain ⟨m10, m11, m12, -, -, -⟩ := cells3 ps1
                  obtain ⟨m20, m21, m22, -, -, -⟩ := cells3 ps2
                  obtain ⟨m30, m31, m32, -, -, -⟩ := cells3 ps3
                  simp only [mv]
                  go_wp2_with fail
                  refine (rnodeOf_ _ r3.1 A3 k3 c3 pg3 Hm3.out.right (i : Int) hi0 (by rw [Hm3.out.n]; exact hin)).mono ?_
                  rintro e y24 ⟨he9, hy⟩
                  rw [Hn3.out (i : Int)] at he9
                  rw [if_pos HC.out] at he9
                  subst he9
                  replace pbk := pbk.keep hy
                  replace ps1 := ps1.keep hy
                  replace ps2 := ps2.keep hy
                  replace ps3 := ps3.keep hy
                  replace pg1 := pg1.below hy
                  replace pg2 := pg2.below hy
                  replace pg3 := pg3.below hy
                  replace pm := pm.below hy
                  replace pB := below_step pB hy (Nat.le_refl _)
                  replace pb := below_step pb hy (Nat.le_refl _)
                  clear hy d0 d1 d2 m10 m11 m12 m20 m21 m22 m30 m31 m32
                  obtain ⟨d0, d1, d2, -, -, -⟩ := cells3 pbk
                  obtain ⟨m10, m11, m12, -, -, -⟩ := cells3 ps1
                  obtain ⟨m20, m21, m22, -, -, -⟩ := cells3 ps2
                  obtain ⟨m30, m31, m32, -, -, -⟩ := cells3 ps3
                  simp only [mv]
                  go_wp2_with fail
                  go_roundw
                  case rel => exact ⟨i + 1, by omega, by go_num, pB, pb⟩
                  case measure => simp [intOf]; omega
                · have HC := Lib.hid (show ¬ (p.fr ≤ (i : Int) ∧ (i : Int) < p.en) by omega)
                  go_wp2_with fail
                  refine (ours_ _ r3.1 A3 k3 c3).mono ?_
                  rintro e y25 ⟨he9, hy⟩
                  subst he9
                  replace pbk := pbk.keep hy
                  replace ps1 := ps1.keep hy
                  replace ps2 := ps2.keep hy
                  replace ps3 := ps3.keep hy
                  replace pg1 := pg1.below hy
                  replace pg2 := pg2.below hy
                  replace pg3 := pg3.below hy
                  replace pm := pm.below hy
                  replace pB := below_step pB hy (Nat.le_refl _)
                  replace pb := below_step pb hy (Nat.le_refl _)
                  clear hy d0 d1 d2 m10 m11 m12 m20 m21 m22 m30 m31 m32
                  obtain ⟨d0, d1, d2, -, -, -⟩ := cells3 pbk
                  obtain ⟨m10, m11, m12, -, -, -⟩ := cells3 ps1
                  obtain ⟨m20, m21, m22, -, -, -⟩ := cells3 ps2
                  obtain ⟨m30, m31, m32, -, -, -⟩ := cells3 ps3
                  simp only [mv]
                  go_wp2_with fail
                  refine (rnodeOf_ _ r3.1 A3 k3 c3 pg3 Hm3.out.right (i : Int) hi0 (by rw [Hm3.out.n]; exact hin)).mono ?_
                  rintro e y26 ⟨he9, hy⟩
                  rw [Hn3.out (i : Int)] at he9
                  rw [if_neg HC.out, HW.out] at he9
                  subst he9
                  replace pbk := pbk.keep hy
                  replace ps1 := ps1.keep hy
                  replace ps2 := ps2.keep hy
                  replace ps3 := ps3.keep hy
                  replace pg1 := pg1.below hy
                  replace pg2 := pg2.below hy
                  replace pg3 := pg3.below hy
                  replace pm := pm.below hy
                  replace pB := below_step pB hy (Nat.le_refl _)
                  replace pb := below_step pb hy (Nat.le_refl _)
                  clear hy d0 d1 d2 m10 m11 m12 m20 m21 m22 m30 m31 m32
                  obtain ⟨d0, d1, d2, -, -, -⟩ := cells3 pbk
                  obtain ⟨m10, m11, m12, -, -, -⟩ := cells3 ps1
                  obtain ⟨m20, m21, m22, -, -, -⟩ := cells3 ps2
                  obtain ⟨m30, m31, m32, -, -, -⟩ := cells3 ps3
                  simp only [mv]
                  go_wp2_with fail
                  go_roundw
                  case rel => exact ⟨i + 1, by omega, by go_num, pB, pb⟩
                  case measure => simp [intOf]; omega
              · have HC := Lib.hid (show ¬ (p.fr ≤ (i : Int) ∧ (i : Int) < p.en) by omega)
                go_wp2_with fail
                refine (ours_ _ r3.1 A3 k3 c3).mono ?_
                rintro e y27 ⟨he9, hy⟩
                subst he9
                replace pbk := pbk.keep hy
                replace ps1 := ps1.keep hy
                replace ps2 := ps2.keep hy
                replace ps3 := ps3.keep hy
                replace pg1 := pg1.below hy
                replace pg2 := pg2.below hy
                replace pg3 := pg3.below hy
                replace pm := pm.below hy
                replace pB := below_step pB hy (Nat.le_refl _)
                replace pb := below_step pb hy (Nat.le_refl _)
                clear hy d0 d1 d2 m10 m11 m12 m20 m21 m22 m30 m31 m32
                obtain ⟨d0, d1, d2, -, -, -⟩ := cells3 pbk
                obtain ⟨m10, m11, m12, -, -, -⟩ := cells3 ps1
                obtain ⟨m20, m21, m22, -, -, -⟩ := cells3 ps2
                obtain ⟨m30, m31, m32, -, -, -⟩ := cells3 ps3
                simp only [mv]
                go_wp2_with fail
                refine (rnodeOf_ _ r3.1 A3 k3 c3 pg3 Hm3.out.right (i : Int) hi0 (by rw [Hm3.out.n]; exact hin)).mono ?_
                rintro e y28 ⟨he9, hy⟩
                rw [Hn3.out (i : Int)] at he9
                rw [if_neg HC.out, HW.out] at he9
                subst he9
                replace pbk := pbk.keep hy
                replace ps1 := ps1.keep hy
                replace ps2 := ps2.keep hy
                replace ps3 := ps3.keep hy
                replace pg1 := pg1.below hy
                replace pg2 := pg2.below hy
                replace pg3 := pg3.below hy
                replace pm := pm.below hy
                replace pB := below_step pB hy (Nat.le_refl _)
                replace pb := below_step pb hy (Nat.le_refl _)
                clear hy d0 d1 d2 m10 m11 m12 m20 m21 m22 m30 m31 m32
                obtain ⟨d0, d1, d2, -, -, -⟩ := cells3 pbk
                obtain ⟨m10, m11, m12, -, -, -⟩ := cells3 ps1
                obtain ⟨m20, m21, m22, -, -, -⟩ := cells3 ps2
                obtain ⟨m30, m31, m32, -, -, -⟩ := cells3 ps3
                simp only [mv]
                go_wp2_with fail
                go_roundw
                case rel => exact ⟨i + 1, by omega, by go_num, pB, pb⟩
                case measure => simp [intOf]; omega
            · have t3 : (r3.2 != 0) = true := by simp [hg]
              clear hg
              go_wp2
              go_roundw
              case rel => exact ⟨i + 1, by omega, by go_num, pB, pb⟩
              case measure => simp [intOf]; omega
          · have t2 : (r2.2 == 0) = false := by simp [hf]
            clear hf
            by_cases hg : r3.2 = 0
            · have t3 : (r3.2 != 0) = false := by simp [hg]
              have h3 : moveA m a nd = (r3.1, 0) := by rw [Hr3.out, ← hg]
              obtain ⟨pre, p, post, hat⟩ := move_in h3
              have Hm3 := Lib.hid (move_made h3)
              have Hn3 := Lib.hid (fun i => move_node h3 hat i)
              obtain ⟨b, o, rfl, hik, fp, -, -, -⟩ := at_cells pm hat.get
              obtain ⟨ff, fe, fn⟩ := fp.all
              obtain ⟨j, hj⟩ : ∃ j, pre.length = j := ⟨_, rfl⟩
              have Hf := Lib.hid (show findA m a = ((j : Int), 0) by rw [find_at hr hat, hj])
              have Hget := Lib.hid (show m.ps[j]? = some p by rw [← hj]; exact hat.get)
              rw [hj] at hik
              have hj0 : (0 : Int) ≤ (j : Int) := by omega
              have hjK : (j : Int) < (k : Int) := by omega
              have tn : (nd != nd) = false := by simp
              clear hat hj h3 hg
              go_wp2_with fail
              refine (rfind_ _ m _ k c pm a ha).mono ?_
              rw [Hf.out]
              rintro e y29 ⟨he9, hy⟩
              subst he9
              replace pbk := pbk.keep hy
              replace ps1 := ps1.keep hy
              replace ps2 := ps2.keep hy
              replace ps3 := ps3.keep hy
              replace pg1 := pg1.below hy
              replace pg2 := pg2.below hy
              replace pg3 := pg3.below hy
              replace pm := pm.below hy
              replace pB := below_step pB hy (Nat.le_refl _)
              replace pb := below_step pb hy (Nat.le_refl _)
              clear hy d0 d1 d2 m10 m11 m12 m20 m21 m22 m30 m31 m32
              obtain ⟨d0, d1, d2, -, -, -⟩ := cells3 pbk
              obtain ⟨m10, m11, m12, -, -, -⟩ := cells3 ps1
              obtain ⟨m20, m21, m22, -, -, -⟩ := cells3 ps2
              obtain ⟨m30, m31, m32, -, -, -⟩ := cells3 ps3
              simp only
              obtain ⟨b', o', e', -, -, p0, p1, p2⟩ := at_cells pm Hget.out
              injection e' with e'
              injection e' with e1 e2
              subst e1 e2
              by_cases hq0 : p.fr ≤ (i : Int)
              · by_cases hq1 : (i : Int) < p.en
                · have HC := Lib.hid (show p.fr ≤ (i : Int) ∧ (i : Int) < p.en from ⟨hq0, hq1⟩)
                  go_wp2_with fail
                  refine (ours_ _ r3.1 A3 k3 c3).mono ?_
                  rintro e y30 ⟨he9, hy⟩
                  subst he9
                  replace pbk := pbk.keep hy
                  replace ps1 := ps1.keep hy
                  replace ps2 := ps2.keep hy
                  replace ps3 := ps3.keep hy
                  replace pg1 := pg1.below hy
                  replace pg2 := pg2.below hy
                  replace pg3 := pg3.below hy
                  replace pm := pm.below hy
                  replace pB := below_step pB hy (Nat.le_refl _)
                  replace pb := below_step pb hy (Nat.le_refl _)
                  clear hy d0 d1 d2 m10 m11 m12 m20 m21 m22 m30 m31 m32
                  obtain ⟨d0, d1, d2, -, -, -⟩ := cells3 pbk
                  obtain ⟨m10, m11, m12, -, -, -⟩ := cells3 ps1
                  obtain ⟨m20, m21, m22, -, -, -⟩ := cells3 ps2
                  obtain ⟨m30, m31, m32, -, -, -⟩ := cells3 ps3
                  simp only [mv]
                  go_wp2_with fail
                  refine (rnodeOf_ _ r3.1 A3 k3 c3 pg3 Hm3.out.right (i : Int) hi0 (by rw [Hm3.out.n]; exact hin)).mono ?_
                  rintro e y31 ⟨he9, hy⟩
                  rw [Hn3.out (i : Int)] at he9
                  rw [if_pos HC.out] at he9
                  subst he9
                  replace pbk := pbk.keep hy
                  replace ps1 := ps1.keep hy
                  replace ps2 := ps2.keep hy
                  replace ps3 := ps3.keep hy
                  replace pg1 := pg1.below hy
                  replace pg2 := pg2.below hy
                  replace pg3 := pg3.below hy
                  replace pm := pm.below hy
                  replace pB := below_step pB hy (Nat.le_refl _)
                  replace pb := below_step pb hy (Nat.le_refl _)
                  clear hy d0 d1 d2 m10 m11 m12 m20 m21 m22 m30 m31 m32
                  obtain ⟨d0, d1, d2, -, -, -⟩ := cells3 pbk
                  obtain ⟨m10, m11, m12, -, -, -⟩ := cells3 ps1
                  obtain ⟨m20, m21, m22, -, -, -⟩ := cells3 ps2
                  obtain ⟨m30, m31, m32, -, -, -⟩ := cells3 ps3
                  simp only [mv]
                  go_wp2_with fail
                  go_roundw
                  case rel => exact ⟨i + 1, by omega, by go_num, pB, pb⟩
                  case measure => simp [intOf]; omega
                · have HC := Lib.hid (show ¬ (p.fr ≤ (i : Int) ∧ (i : Int) < p.en) by omega)
                  go_wp2_with fail
                  refine (ours_ _ r3.1 A3 k3 c3).mono ?_
                  rintro e y32 ⟨he9, hy⟩
                  subst he9
                  replace pbk := pbk.keep hy
                  replace ps1 := ps1.keep hy
                  replace ps2 := ps2.keep hy
                  replace ps3 := ps3.keep hy
                  replace pg1 := pg1.below hy
                  replace pg2 := pg2.below hy
                  replace pg3 := pg3.below hy
                  replace pm := pm.below hy
                  replace pB := below_step pB hy (Nat.le_refl _)
                  replace pb := below_step pb hy (Nat.le_refl _)
                  clear hy d0 d1 d2 m10 m11 m12 m20 m21 m22 m30 m31 m32
                  obtain ⟨d0, d1, d2, -, -, -⟩ := cells3 pbk
                  obtain ⟨m10, m11, m12, -, -, -⟩ := cells3 ps1
                  obtain ⟨m20, m21, m22, -, -, -⟩ := cells3 ps2
                  obtain ⟨m30, m31, m32, -, -, -⟩ := cells3 ps3
                  simp only [mv]
                  go_wp2_with fail
                  refine (rnodeOf_ _ r3.1 A3 k3 c3 pg3 Hm3.out.right (i : Int) hi0 (by rw [Hm3.out.n]; exact hin)).mono ?_
                  rintro e y33 ⟨he9, hy⟩
                  rw [Hn3.out (i : Int)] at he9
                  rw [if_neg HC.out, HW.out] at he9
                  subst he9
                  replace pbk := pbk.keep hy
                  replace ps1 := ps1.keep hy
                  replace ps2 := ps2.keep hy
                  replace ps3 := ps3.keep hy
                  replace pg1 := pg1.below hy
                  replace pg2 := pg2.below hy
                  replace pg3 := pg3.below hy
                  replace pm := pm.below hy
                  replace pB := below_step pB hy (Nat.le_refl _)
                  replace pb := below_step pb hy (Nat.le_refl _)
                  clear hy d0 d1 d2 m10 m11 m12 m20 m21 m22 m30 m31 m32
                  obtain ⟨d0, d1, d2, -, -, -⟩ := cells3 pbk
                  obtain ⟨m10, m11, m12, -, -, -⟩ := cells3 ps1
                  obtain ⟨m20, m21, m22, -, -, -⟩ := cells3 ps2
                  obtain ⟨m30, m31, m32, -, -, -⟩ := cells3 ps3
                  simp only [mv]
                  go_wp2_with fail
                  go_roundw
                  case rel => exact ⟨i + 1, by omega, by go_num, pB, pb⟩
                  case measure => simp [intOf]; omega
              · have HC := Lib.hid (show ¬ (p.fr ≤ (i : Int) ∧ (i : Int) < p.en) by omega)
                go_wp2_with fail
                refine (ours_ _ r3.1 A3 k3 c3).mono ?_
                rintro e y34 ⟨he9, hy⟩
                subst he9
                replace pbk := pbk.keep hy
                replace ps1 := ps1.keep hy
                replace ps2 := ps2.keep hy
                replace ps3 := ps3.keep hy
                replace pg1 := pg1.below hy
                replace pg2 := pg2.below hy
                replace pg3 := pg3.below hy
                replace pm := pm.below hy
                replace pB := below_step pB hy (Nat.le_refl _)
                replace pb := below_step pb hy (Nat.le_refl _)
                clear hy d0 d1 d2 m10 m11 m12 m20 m21 m22 m30 m31 m32
                obtain ⟨d0, d1, d2, -, -, -⟩ := cells3 pbk
                obtain ⟨m10, m11, m12, -, -, -⟩ := cells3 ps1
                obtain ⟨m20, m21, m22, -, -, -⟩ := cells3 ps2
                obtain ⟨m30, m31, m32, -, -, -⟩ := cells3 ps3
                simp only [mv]
                go_wp2_with fail
                refine (rnodeOf_ _ r3.1 A3 k3 c3 pg3 Hm3.out.right (i : Int) hi0 (by rw [Hm3.out.n]; exact hin)).mono ?_
                rintro e y35 ⟨he9, hy⟩
                rw [Hn3.out (i : Int)] at he9
                rw [if_neg HC.out, HW.out] at he9
                subst he9
                replace pbk := pbk.keep hy
                replace ps1 := ps1.keep hy
                replace ps2 := ps2.keep hy
                replace ps3 := ps3.keep hy
                replace pg1 := pg1.below hy
                replace pg2 := pg2.below hy
                replace pg3 := pg3.below hy
                replace pm := pm.below hy
                replace pB := below_step pB hy (Nat.le_refl _)
                replace pb := below_step pb hy (Nat.le_refl _)
                clear hy d0 d1 d2 m10 m11 m12 m20 m21 m22 m30 m31 m32
                obtain ⟨d0, d1, d2, -, -, -⟩ := cells3 pbk
                obtain ⟨m10, m11, m12, -, -, -⟩ := cells3 ps1
                obtain ⟨m20, m21, m22, -, -, -⟩ := cells3 ps2
                obtain ⟨m30, m31, m32, -, -, -⟩ := cells3 ps3
                simp only [mv]
                go_wp2_with fail
                go_roundw
                case rel => exact ⟨i + 1, by omega, by go_num, pB, pb⟩
                case measure => simp [intOf]; omega
            · have t3 : (r3.2 != 0) = true := by simp [hg]
              clear hg
              go_wp2
              go_roundw
              case rel => exact ⟨i + 1, by omega, by go_num, pB, pb⟩
              case measure => simp [intOf]; omega
      · have hin : ¬ (i : Int) < m.n := by omega
        go_wp2_with fail
        refine (alive_ _).mono ?_
        rintro e z ⟨rfl, hz⟩
        go_wp2
        go_ret
        exact ⟨rfl, below_step pB hz (Nat.le_refl _)⟩
end
end Sma
open Sma

set_option maxRecDepth 100000 in
theorem smapNodes_lifted (os : Os) (started : os.Started) (H : Type) (enc : TypeId × Value → H) :
    ReturnsInHanded {} Try.checked os 7 .any (Rows.smapNodesSpec.pre6 enc Try.prog Try.f7 Rows.smapNodesRow.domain false) (Rows.smapNodesSpec.post enc Try.prog Try.f7 false true false false) := by
  refine law_lifted (C := Try.checked) (tb := 4) own_ started (by kernel_rfl) Try.func7
    (ChangeSpec.witness6 (enc := enc) (C := Try.checked) false ⟨#[], #[.agg #[.int .i64 0, .int .i64 0, .slice none 0 0], .int .i64 0, .int .i64 0], []⟩ 8 (by kernel_rfl) (by kernel_rfl) (by kernel_rfl) (by kernel_rfl))
    rfl rfl Try.underlying4 laidOut_ (by kernel_rfl) (fun ds h => by match ds, h with | [_, _, _], _ => rfl) ?_
  intro W base args ds p hval0 hA0 _ hsz0
  have hval : ∀ (j : Nat) t v, Try.f7.params[j]? = some t → args[j]? = some v → Value.okWide Try.prog W .any base t v := hval0
  have hA : DataW.TrodAll enc Try.prog W 0 (fun _ => true) true Try.f7.params.toList args.toList ds p := hA0
  have hsz : (DataW.weightsEach Try.prog Try.f7.params.toList ds).all (· ≤ reachBytes) = true := hsz0
  clear hval0 hA0 hsz0
  rw [Try.params7] at hA hval hsz
  obtain ⟨v0, v1, v2, d0, d1, d2, p0, p1, p2, rfl, rfl, rfl, h0, h1, h2⟩ := trodAll_three hA
  obtain ⟨cs0, a0, rfl, r0, b0⟩ := arg_struct ops_mp Try.underlying25 (hval 0 _ v0 rfl rfl) h0 (weight_at hsz (j := 0) rfl rfl)
  obtain ⟨z1, rfl, hz1⟩ := arg_int _ _ Try.underlying3 (hval 1 _ v1 rfl rfl) h1 wf_i64
  obtain ⟨z2, rfl, hz2⟩ := arg_int _ _ Try.underlying3 (hval 2 _ v2 rfl rfl) h2 wf_i64
  exact by
    obtain ⟨A0, k0, c0, rfl, hm, -⟩ := mp_arr r0
    exact nodes_walk W (toMp a0) A0 k0 c0 hm z1 z2 hz1 hz2

/-- SmapNodes, for every input: the statement as it was given. -/
theorem smapNodes_holds : Rows.SmapNodesSaid :=
  OpenClaim.holds_of_wide 7 Try.f7 rfl rfl rfl rfl rfl rfl rfl ⟨rfl, rfl, rfl, rfl, rfl⟩ rfl rfl rfl rfl rfl (by kernel_rfl) Try.func7 (by kernel_rfl)
    (of_decide_eq_true (by kernel_rfl)) (by unfold Func.isWrapper; first | (rw [if_pos (by decide +kernel)]; kernel_rfl) | (rw [if_neg (by decide +kernel)]; exact ⟨rfl, rfl⟩))
    (fun os started H enc _ => smapNodes_lifted os started H enc)
end Go.Proofs.Ytncapionioeieaa
