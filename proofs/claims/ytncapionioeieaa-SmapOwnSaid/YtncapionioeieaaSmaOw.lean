/- Proves SmapOwn of layer 13 (smap), for every input, with no condition: maps are not turned, and what was answered may be written over. Printed by wip/tools/gensmaow.py. -/
import Derived.Test.YtncapionioeieaaSmaAr
import Derived.Test.YtncapionioeieaaSmaG
import Derived.Test.YtncapionioeieaaSmaH
set_option linter.all false
namespace Go.Proofs.Ytncapionioeieaa
open Go.ChangeShapes Go.WideShapes Go.ChangeAt Go.RowKit
namespace Sma

/-- A slice whose cells are the call's own, in new memory from B on, whatever they hold. -/
def Mine (w : World) (B : Nat) (A : Option Addr) (m : Nat) : Prop := m = 0 ∨ ∃ g cap cur, A = some ⟨g, 0, none⟩ ∧ B ≤ g ∧ Blk w g 58 cur ∧ m ≤ cap ∧ cur.size = cap * 3
theorem mine_of {w : World} {B : Nat} {A : Option Addr} {m c : Nat} {x : Mp} (h : Got w B A m c x) : Mine w B A m := by
  rcases h.own.2 with ⟨_, h0⟩ | ⟨g, cap, cur, hv, hg, hh, hnc, hcm, hcs, hx⟩
  · exact .inl h0
  · injection hv with hA _ _
    exact .inr ⟨g, cap, cur, hA, hg, hh, hnc, hcs⟩
theorem Mine.keep {w w' : World} {B : Nat} {A : Option Addr} {m : Nat} (h : Mine w B A m) (hb : Below w.heap.size w w') : Mine w' B A m :=
  h.imp id fun ⟨g, cap, cur, h1, h2, h3, h4⟩ => ⟨g, cap, cur, h1, h2, h3.keep hb, h4⟩
theorem Mine.set {w : World} {B : Nat} {A : Option Addr} {m g o : Nat} {cur : Array Value} {vs : List Value} (h : Mine w B A m) (hb : Blk w g 58 cur) (hv : o + vs.length ≤ cur.size) : Mine (w.setCells g o vs) B A m := by
  rcases h with h | ⟨g', cap, cur', h1, h2, h3, h4, h5⟩
  · exact .inl h
  · right
    by_cases e : g' = g
    · subst e
      have h3' : w.heap[g']? = some (.cells cur' 58 (0, 0)) := h3
      have hb' : w.heap[g']? = some (.cells cur 58 (0, 0)) := hb
      rw [h3'] at hb'
      injection hb' with hb'
      injection hb' with hc
      subst hc
      exact ⟨g', cap, _, h1, h2, h3.sets hv, h4, by simp; omega⟩
    · exact ⟨g', cap, cur', h1, h2, (Tn.sets (lo := g) (hi := g + 1) (Nat.le_refl _) (Nat.lt_succ_self _) vs o w).blk h3 (by omega), h4, h5⟩
/-- The three rows that were answered, and a block of a map's, or of maps'. -/
structure Over (w : World) (B : Nat) (A1 A2 A3 : Option Addr) (k1 k2 k3 : Nat) (gs : Nat) (cs : Array Value) : Prop where
  m1 : Mine w B A1 k1
  m2 : Mine w B A2 k2
  m3 : Mine w B A3 k3
  list : Blk w gs 26 cs
theorem Over.set {w : World} {B : Nat} {A1 A2 A3 : Option Addr} {k1 k2 k3 gs g o : Nat} {cs cur : Array Value} {vs : List Value} (h : Over w B A1 A2 A3 k1 k2 k3 gs cs) (hb : Blk w g 58 cur) (hv : o + vs.length ≤ cur.size) : Over (w.setCells g o vs) B A1 A2 A3 k1 k2 k3 gs cs := by
  refine ⟨h.m1.set hb hv, h.m2.set hb hv, h.m3.set hb hv, (Tn.sets (lo := g) (hi := g + 1) (Nat.le_refl _) (Nat.lt_succ_self _) vs o w).blk h.list ?_⟩
  have hne : gs ≠ g := by
    intro e
    subst e
    have h1 : w.heap[gs]? = _ := h.list
    have h2 : w.heap[gs]? = _ := hb
    rw [h1] at h2
    simp at h2
  omega
theorem Over.keep {w w' : World} {B : Nat} {A1 A2 A3 : Option Addr} {k1 k2 k3 gs : Nat} {cs : Array Value} (h : Over w B A1 A2 A3 k1 k2 k3 gs cs) (hb : Below w.heap.size w w') : Over w' B A1 A2 A3 k1 k2 k3 gs cs := ⟨h.m1.keep hb, h.m2.keep hb, h.m3.keep hb, h.list.keep hb⟩
section
variable (w : World)
set_option maxRecDepth 100000 in
set_option maxHeartbeats 8000000 in
theorem ownS_walk (m : Mp) (A : Option Addr) (k c : Nat) (h : Mr w m A k c) (hcb : c * 24 ≤ 140737488351232) (a nd : Int) (ha : I64 a) (hnd : I64 nd) : Calls Try.prog 9 #[mv m A k c, .int .i64 a, .int .i64 nd] w fun e w' => e = .returned (.bool true) ∧ Below w.heap.size w w' := by
  obtain ⟨i0, hi0, hz0, hz1, hz2⟩ := pc_info
  have Hz := Lib.hid hz2
  clear hz2
  have hbx := (Below.refl w.heap.size w).alloc (Nat.le_refl _) (rmo m A k c)
  have hm1 := h.below hbx
  have hbk := Blk.new w 25 #[.int .i64 m.v, .int .i64 m.n, .slice A k c] rfl
  have hv := h.v
  have hn := h.n
  have hkk := h.le
  have hkc := Nat.le_trans h.le h.cap
  have hA0 := h.ps.zero
  unfold I64 at hv hn
  have y1 : 0 + k ≤ maxLen := by unfold maxLen; omega
  have y2 : (0 + k) * 24 ≤ 140737488355328 := by omega
  have hsz : w.heap.size + 1 = (w.alloc (rmo m A k c)).heap.size := by simp
  simp only [mv]
  clear h
  obtain ⟨r1, hr1⟩ : ∃ r, splitA m a = r := ⟨_, rfl⟩
  obtain ⟨r2, hr2⟩ : ∃ r, mergeA m a = r := ⟨_, rfl⟩
  obtain ⟨r3, hr3⟩ : ∃ r, moveA m a nd = r := ⟨_, rfl⟩
  have Hr1 := Lib.hid hr1
  have Hr2 := Lib.hid hr2
  have Hr3 := Lib.hid hr3
  clear hr1 hr2 hr3
  go_enter Try.func9, Try.ntmps9
  go_wp2_with (first
    | (at_builtin
       go_must (refine wpList_app _ rfl (.const (.slice none 0 0)) (.tmp 18) _ rfl (w.heap.size + 1) 58 i0 _ 3 24 Try.underlying23 hi0 hz0 hz1 Hz.out rfl (by omega) (.slice none 0 0) 0 [] rfl (own_nil _ _ _ _) A k c (pvs m.ps) rfl hA0 hm1.ps.rd (pvs_one _) y1 y2 (Nat.le_of_eq hsz) ?_)
       intro v1 z1 hown1 hg1 hat1
       simp only [Nat.zero_add, List.nil_append] at hown1
       have hb01 : Below (w.alloc (rmo m A k c)).heap.size (w.alloc (rmo m A k c)) z1 := (Below.refl _ _).grown hg1 (Nat.le_refl _) (fun k hk => by cases hk)
       have hfit := hm1.ps.fit
       replace hm1 := hm1.below hb01
       replace hbk := hbk.keep hb01
       replace hbx := below_step hbx hb01 (by omega)
       have hw0 : Below z1.heap.size z1 z1 := Below.refl _ _
       obtain ⟨Aw, cw, rfl, hcw, hmw, -⟩ := own_form hown1
       have hwas := po_ps hown1 hfit
       have hmz := hm1
       have hbz := hbk
       have hbxz := hbx
       obtain ⟨d0, d1, d2, -, -, -⟩ := cells3 hbk)
    | fail)
  clear hsz hg1 hat1 hown1 hb01
  refine (theirs_ _ m A k c).mono ?_
  rintro e u1 ⟨rfl, hb⟩
  replace hm1 := hm1.below hb
  replace hbk := hbk.keep hb
  replace hbx := below_step hbx hb (by omega)
  replace hw0 := below_step hw0 hb (Nat.le_refl _)
  clear hb d0 d1 d2
  simp only [mv]
  go_wp2_with fail
  refine (split_ _ m A k c hm1 a ha).mono ?_
  rw [Hr1.out]
  rintro e v1 ⟨A1, k1, c1, rfl, g1, hb⟩
  have q1 := mine_of (g1.mono hw0.size)
  have hal := (Below.refl v1.heap.size v1).alloc (Nat.le_refl _) (mo r1.1 A1 k1 c1)
  have hs1 := Blk.new v1 26 #[.int .i64 r1.1.v, .int .i64 r1.1.n, .slice A1 k1 c1] rfl
  replace hm1 := (hm1.below hb).below hal
  replace hbk := (hbk.keep hb).keep hal
  replace hbx := below_step (below_step hbx hb (by omega)) hal (by omega)
  replace hw0 := below_step (below_step hw0 hb (Nat.le_refl _)) hal (Nat.le_refl _)
  replace q1 := q1.keep hal
  have hk1 : k1 ≤ 9223372036854775807 := Nat.le_trans g1.mr.le g1.mr.cap
  replace g1 := g1.mr.below hal
  have hz1 : (v1.alloc (mo r1.1 A1 k1 c1)).heap.size = v1.heap.size + 1 := by simp
  clear hb hal
  simp only [mv]
  obtain ⟨d0, d1, d2, -, -, -⟩ := cells3 hbk
  go_wp2_with fail
  generalize hw1 : v1.heap.size = b1 at *
  generalize (v1.alloc (mo r1.1 A1 k1 c1)) = x1 at *
  refine (theirs_ _ m A k c).mono ?_
  rintro e u2 ⟨rfl, hb⟩
  replace hm1 := hm1.below hb
  replace hbk := hbk.keep hb
  replace hbx := below_step hbx hb (by omega)
  replace hw0 := below_step hw0 hb (Nat.le_refl _)
  replace hs1 := hs1.keep hb
  replace q1 := q1.keep hb
  replace g1 := g1.below hb
  clear hb d0 d1 d2
  simp only [mv]
  go_wp2_with fail
  refine (merge_ _ m A k c hm1 a ha).mono ?_
  rw [Hr2.out]
  rintro e v2 ⟨A2, k2, c2, rfl, g2, hb⟩
  have q2 := mine_of (g2.mono hw0.size)
  have hal := (Below.refl v2.heap.size v2).alloc (Nat.le_refl _) (mo r2.1 A2 k2 c2)
  have hs2 := Blk.new v2 26 #[.int .i64 r2.1.v, .int .i64 r2.1.n, .slice A2 k2 c2] rfl
  replace hm1 := (hm1.below hb).below hal
  replace hbk := (hbk.keep hb).keep hal
  replace hbx := below_step (below_step hbx hb (by omega)) hal (by omega)
  replace hw0 := below_step (below_step hw0 hb (Nat.le_refl _)) hal (Nat.le_refl _)
  replace hs1 := (hs1.keep hb).keep hal
  replace q1 := (q1.keep hb).keep hal
  replace g1 := (g1.below hb).below hal
  replace q2 := q2.keep hal
  have hk2 : k2 ≤ 9223372036854775807 := Nat.le_trans g2.mr.le g2.mr.cap
  replace g2 := g2.mr.below hal
  have hz2 : (v2.alloc (mo r2.1 A2 k2 c2)).heap.size = v2.heap.size + 1 := by simp
  clear hb hal
  simp only [mv]
  obtain ⟨d0, d1, d2, -, -, -⟩ := cells3 hbk
  go_wp2_with fail
  generalize hw2 : v2.heap.size = b2 at *
  generalize (v2.alloc (mo r2.1 A2 k2 c2)) = x2 at *
  refine (theirs_ _ m A k c).mono ?_
  rintro e u3 ⟨rfl, hb⟩
  replace hm1 := hm1.below hb
  replace hbk := hbk.keep hb
  replace hbx := below_step hbx hb (by omega)
  replace hw0 := below_step hw0 hb (Nat.le_refl _)
  replace hs1 := hs1.keep hb
  replace q1 := q1.keep hb
  replace g1 := g1.below hb
  replace hs2 := hs2.keep hb
  replace q2 := q2.keep hb
  replace g2 := g2.below hb
  clear hb d0 d1 d2
  simp only [mv]
  go_wp2_with fail
  refine (move_ _ m A k c hm1 a nd ha hnd).mono ?_
  rw [Hr3.out]
  rintro e v3 ⟨A3, k3, c3, rfl, g3, hb⟩
  have q3 := mine_of (g3.mono hw0.size)
  have hal := (Below.refl v3.heap.size v3).alloc (Nat.le_refl _) (mo r3.1 A3 k3 c3)
  have hs3 := Blk.new v3 26 #[.int .i64 r3.1.v, .int .i64 r3.1.n, .slice A3 k3 c3] rfl
  replace hm1 := (hm1.below hb).below hal
  replace hbk := (hbk.keep hb).keep hal
  replace hbx := below_step (below_step hbx hb (by omega)) hal (by omega)
  replace hw0 := below_step (below_step hw0 hb (Nat.le_refl _)) hal (Nat.le_refl _)
  replace hs1 := (hs1.keep hb).keep hal
  replace q1 := (q1.keep hb).keep hal
  replace g1 := (g1.below hb).below hal
  replace hs2 := (hs2.keep hb).keep hal
  replace q2 := (q2.keep hb).keep hal
  replace g2 := (g2.below hb).below hal
  replace q3 := q3.keep hal
  have hk3 : k3 ≤ 9223372036854775807 := Nat.le_trans g3.mr.le g3.mr.cap
  replace g3 := g3.mr.below hal
  have hz3 : (v3.alloc (mo r3.1 A3 k3 c3)).heap.size = v3.heap.size + 1 := by simp
  clear hb hal
  simp only [mv]
  obtain ⟨d0, d1, d2, -, -, -⟩ := cells3 hbk
  obtain ⟨m10, m11, m12, -, -, -⟩ := cells3 hs1
  obtain ⟨m20, m21, m22, -, -, -⟩ := cells3 hs2
  obtain ⟨m30, m31, m32, -, -, -⟩ := cells3 hs3
  go_wp2_with fail
  generalize hw3 : v3.heap.size = b3 at *
  generalize (v3.alloc (mo r3.1 A3 k3 c3)) = x3 at *
  clear d0 d1 d2 m10 m11 m12 m20 m21 m22 m30 m31 m32
  have hal := (Below.refl x3.heap.size x3).alloc (Nat.le_refl _) (.cells #[.int .i64 r1.1.v, .int .i64 r1.1.n, .slice A1 k1 c1, .int .i64 r2.1.v, .int .i64 r2.1.n, .slice A2 k2 c2, .int .i64 r3.1.v, .int .i64 r3.1.n, .slice A3 k3 c3] 26)
  have hO : Over (x3.alloc (.cells #[.int .i64 r1.1.v, .int .i64 r1.1.n, .slice A1 k1 c1, .int .i64 r2.1.v, .int .i64 r2.1.n, .slice A2 k2 c2, .int .i64 r3.1.v, .int .i64 r3.1.n, .slice A3 k3 c3] 26)) z1.heap.size A1 A2 A3 k1 k2 k3 (b3 + 1) #[.int .i64 r1.1.v, .int .i64 r1.1.n, .slice A1 k1 c1, .int .i64 r2.1.v, .int .i64 r2.1.n, .slice A2 k2 c2, .int .i64 r3.1.v, .int .i64 r3.1.n, .slice A3 k3 c3] := ⟨q1.keep hal, q2.keep hal, q3.keep hal, Blk.new x3 26 _ (g := b3 + 1) hz3.symm⟩
  replace hw0 := below_step hw0 hal (Nat.le_refl _)
  clear hal hs1 hs2 hs3 hm1 hbk hbx q1 q2 q3 g1 g2 g3 hz1 hz2 hz3 hw1 hw2 hw3
  generalize (x3.alloc (.cells #[.int .i64 r1.1.v, .int .i64 r1.1.n, .slice A1 k1 c1, .int .i64 r2.1.v, .int .i64 r2.1.n, .slice A2 k2 c2, .int .i64 r3.1.v, .int .i64 r3.1.n, .slice A3 k3 c3] 26)) = x4 at *
  generalize b3 + 1 = gs at *
  go_loopw [47] (fun iv wr => ∃ j : Nat, j ≤ 3 ∧ iv = .int .i64 (j : Int) ∧ Over wr z1.heap.size A1 A2 A3 k1 k2 k3 gs #[.int .i64 r1.1.v, .int .i64 r1.1.n, .slice A1 k1 c1, .int .i64 r2.1.v, .int .i64 r2.1.n, .slice A2 k2 c2, .int .i64 r3.1.v, .int .i64 r3.1.n, .slice A3 k3 c3] ∧ Below z1.heap.size z1 wr) (fun iv _ => 3 - (intOf iv).toNat)
  case atStart => exact ⟨0, Nat.zero_le _, rfl, hO, hw0⟩
  case round =>
    obtain ⟨j, hj, rfl, hOr, hbr⟩ := hrel
    obtain ⟨wo, rfl⟩ : ∃ wo : World, wo = wr := ⟨_, rfl⟩
    clear hO hw0
    by_cases hlt : j < 3
    · have hjl : (j : Int) < 3 := by omega
      have hj0 : (0 : Int) ≤ (j : Int) := by omega
      obtain ⟨V, N, Aj, kj, cj, e0, e1, e2, hmm, hkj⟩ : ∃ (V N : Int) (Aj : Option Addr) (kj cj : Nat), wo.cell? ⟨gs, j * 3, none⟩ = some (.int .i64 V) ∧ wo.cell? ⟨gs, j * 3 + 1, none⟩ = some (.int .i64 N) ∧ wo.cell? ⟨gs, j * 3 + 2, none⟩ = some (.slice Aj kj cj) ∧ (∀ W g cs, Over W z1.heap.size A1 A2 A3 k1 k2 k3 g cs → Mine W z1.heap.size Aj kj) ∧ kj ≤ 9223372036854775807 := by
        obtain rfl | rfl | rfl : j = 0 ∨ j = 1 ∨ j = 2 := by omega
        · exact ⟨r1.1.v, r1.1.n, A1, k1, c1, hOr.list.cell rfl, hOr.list.cell rfl, hOr.list.cell rfl, fun W g cs h => h.m1, hk1⟩
        · exact ⟨r2.1.v, r2.1.n, A2, k2, c2, hOr.list.cell rfl, hOr.list.cell rfl, hOr.list.cell rfl, fun W g cs h => h.m2, hk2⟩
        · exact ⟨r3.1.v, r3.1.n, A3, k3, c3, hOr.list.cell rfl, hOr.list.cell rfl, hOr.list.cell rfl, fun W g cs h => h.m3, hk3⟩
      have hal := (Below.refl wo.heap.size wo).alloc (Nat.le_refl _) (.cells #[.int .i64 V, .int .i64 N, .slice Aj kj cj] 26)
      have hOs := hOr.keep hal
      have hOx : Over (wo.alloc (.cells #[.int .i64 V, .int .i64 N, .slice Aj kj cj] 26)) z1.heap.size A1 A2 A3 k1 k2 k3 wo.heap.size #[.int .i64 V, .int .i64 N, .slice Aj kj cj] := ⟨hOs.m1, hOs.m2, hOs.m3, Blk.new wo 26 _ rfl⟩
      have hBs := below_step hbr hal (Nat.le_refl _)
      clear hOr hbr hal
      go_wp2_with fail
      clear e0 e1 e2
      generalize (wo.alloc (.cells #[.int .i64 V, .int .i64 N, .slice Aj kj cj] 26)) = wp at *
      generalize wo.heap.size = gx at *
      go_loopw [54] (fun iv wx => ∃ i : Nat, i ≤ kj ∧ iv = .int .i64 (i : Int) ∧ Over wx z1.heap.size A1 A2 A3 k1 k2 k3 gs #[.int .i64 r1.1.v, .int .i64 r1.1.n, .slice A1 k1 c1, .int .i64 r2.1.v, .int .i64 r2.1.n, .slice A2 k2 c2, .int .i64 r3.1.v, .int .i64 r3.1.n, .slice A3 k3 c3] ∧ Over wx z1.heap.size A1 A2 A3 k1 k2 k3 gx #[.int .i64 V, .int .i64 N, .slice Aj kj cj] ∧ Below z1.heap.size z1 wx) (fun iv _ => kj - (intOf iv).toNat)
      case atStart => exact ⟨0, Nat.zero_le _, rfl, hOs, hOx, hBs⟩
      case round =>
        obtain ⟨i, hi, rfl, hOi, hOy, hbi⟩ := hrel
        clear hOs hOx hBs
        obtain ⟨e0, e1, e2, -, -, -⟩ := cells3 hOy.list
        by_cases hil : i < kj
        · have hii : (i : Int) < (kj : Int) := by omega
          have hi0' : (0 : Int) ≤ (i : Int) := by omega
          rcases hmm _ _ _ hOi with h0 | ⟨g, cap, cur, rfl, hg, hblk, hmc, hcs⟩
          · omega
          · have hth : wr.there g (i * 3) 3 := hblk.there _ _ (by omega)
            have hO2 : Over (wr.setCells g (i * 3) [.int .i64 (-1), .int .i64 0, .int .i64 0]) z1.heap.size A1 A2 A3 k1 k2 k3 gs #[.int .i64 r1.1.v, .int .i64 r1.1.n, .slice A1 k1 c1, .int .i64 r2.1.v, .int .i64 r2.1.n, .slice A2 k2 c2, .int .i64 r3.1.v, .int .i64 r3.1.n, .slice A3 k3 c3] := hOi.set hblk (by simp only [List.length_cons, List.length_nil]; omega)
            have hO3 := hOy.set (vs := [.int .i64 (-1), .int .i64 0, .int .i64 0]) (o := i * 3) hblk (by simp only [List.length_cons, List.length_nil]; omega)
            have hB2 : Below z1.heap.size z1 (wr.setCells g (i * 3) [.int .i64 (-1), .int .i64 0, .int .i64 0]) := hbi.trans ((Tn.sets (lo := g) (hi := g + 1) (Nat.le_refl _) (Nat.lt_succ_self _) _ (i * 3) wr).below hg hbi.size)
            clear hOi hOy hbi hblk hcs hmc
            go_wp2_with (first
              | (refine wpList_store_mid rfl 58 _ _ rfl g (i * 3) #[.int .i64 (-1), .int .i64 0, .int .i64 0] rfl rfl hth (by kernel_rfl) (by simp [Value.oneCell']) ?_
                 rw [show (#[Value.int .i64 (-1), Value.int .i64 0, Value.int .i64 0] : Array Value).toList = [.int .i64 (-1), .int .i64 0, .int .i64 0] from rfl]
                 generalize wr.setCells g (i * 3) [.int .i64 (-1), .int .i64 0, .int .i64 0] = wy at *)
              | fail)
            go_roundw
            case rel => exact ⟨i + 1, by omega, by go_num, hO2, hO3, hB2⟩
            case measure => simp [intOf]; omega
        · have hin : (kj : Int) ≤ (i : Int) := by omega
          go_wp2
          go_roundw
          case rel => exact ⟨j + 1, by omega, by go_num, hOi, hbi⟩
          case measure => simp [intOf]; omega
    · have hin : (3 : Int) ≤ (j : Int) := by omega
      obtain ⟨d0, d1, d2, -, -, -⟩ := cells3 (hbz.keep hbr)
      have hme := hmz.below hbr
      have hwe := hwas.below hbr
      have hBe := below_step hbxz hbr (by omega)
      clear hOr hbr
      go_wp2_with fail
      refine (pieces_ _ A Aw k k c cw m.ps m.ps hme.ps hwe hkc hkc).mono ?_
      rw [sameB_refl]
      rintro e y ⟨jj, rfl, rfl⟩
      clear d0 d1 d2
      go_wp2_with fail
      refine (alive_ _).mono ?_
      rintro e yy ⟨rfl, hyy⟩
      go_wp2
      go_ret
      exact ⟨rfl, below_step (below_drewN hBe jj) hyy (Nat.le_refl _)⟩
end
end Sma
open Sma

set_option maxRecDepth 100000 in
theorem smapOwn_lifted (os : Os) (started : os.Started) (H : Type) (enc : TypeId × Value → H) :
    ReturnsInHanded {} Try.checked os 9 .any (Rows.smapOwnSpec.pre6 enc Try.prog Try.f9 Rows.smapOwnRow.domain false) (Rows.smapOwnSpec.post enc Try.prog Try.f9 false true false false) := by
  refine law_lifted (C := Try.checked) (tb := 4) own_ started (by kernel_rfl) Try.func9
    (ChangeSpec.witness6 (enc := enc) (C := Try.checked) false ⟨#[], #[.agg #[.int .i64 0, .int .i64 0, .slice none 0 0], .int .i64 0, .int .i64 0], []⟩ 8 (by kernel_rfl) (by kernel_rfl) (by kernel_rfl) (by kernel_rfl))
    rfl rfl Try.underlying4 laidOut_ (by kernel_rfl) (fun ds h => by match ds, h with | [_, _, _], _ => rfl) ?_
  intro W base args ds p hval0 hA0 _ hsz0
  have hval : ∀ (j : Nat) t v, Try.f9.params[j]? = some t → args[j]? = some v → Value.okWide Try.prog W .any base t v := hval0
  have hA : DataW.TrodAll enc Try.prog W 0 (fun _ => true) true Try.f9.params.toList args.toList ds p := hA0
  have hsz : (DataW.weightsEach Try.prog Try.f9.params.toList ds).all (· ≤ reachBytes) = true := hsz0
  clear hval0 hA0 hsz0
  rw [Try.params9] at hA hval hsz
  obtain ⟨v0, v1, v2, d0, d1, d2, p0, p1, p2, rfl, rfl, rfl, h0, h1, h2⟩ := trodAll_three hA
  obtain ⟨cs0, a0, rfl, r0, b0⟩ := arg_struct ops_mp Try.underlying25 (hval 0 _ v0 rfl rfl) h0 (weight_at hsz (j := 0) rfl rfl)
  obtain ⟨z1, rfl, hz1⟩ := arg_int _ _ Try.underlying3 (hval 1 _ v1 rfl rfl) h1 wf_i64
  obtain ⟨z2, rfl, hz2⟩ := arg_int _ _ Try.underlying3 (hval 2 _ v2 rfl rfl) h2 wf_i64
  exact by
    obtain ⟨A0, k0, c0, rfl, hm, hcb⟩ := mp_arr r0
    exact ownS_walk W (toMp a0) A0 k0 c0 hm hcb z1 z2 hz1 hz2

/-- SmapOwn, for every input: the statement as it was given. -/
theorem smapOwn_holds : Rows.SmapOwnSaid :=
  OpenClaim.holds_of_wide 9 Try.f9 rfl rfl rfl rfl rfl rfl rfl ⟨rfl, rfl, rfl, rfl, rfl⟩ rfl rfl rfl rfl rfl (by kernel_rfl) Try.func9 (by kernel_rfl)
    (of_decide_eq_true (by kernel_rfl)) (by unfold Func.isWrapper; first | (rw [if_pos (by decide +kernel)]; kernel_rfl) | (rw [if_neg (by decide +kernel)]; exact ⟨rfl, rfl⟩))
    (fun os started H enc _ => smapOwn_lifted os started H enc)
end Go.Proofs.Ytncapionioeieaa
