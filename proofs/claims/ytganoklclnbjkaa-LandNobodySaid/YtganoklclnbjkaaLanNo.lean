/- LandNobody: a berth that nobody made answers an error; records that were handed in, and what was read, may be written over: for every act. -/
import Derived.Test.YtganoklclnbjkaaLanAr
set_option linter.all false
namespace Go.Proofs.Ytganoklclnbjkaa
open Go.ChangeShapes Go.WideShapes Go.ChangeAt Go.RowKit
namespace Lan
open Str (Rec mayB FitR Rdt Rcl RC ra rv RecV recShp toRec rec_arr ops_rec k8 rc_of own_ laidOut_)
open Blo (I64 GotN AnsN)
/-- Nobody made it. -/
def NoB (w : World) (v : Value) : Prop := Calls Try.prog 23 #[v] w fun e w' => e = .returned (.bool false) ∧ w = w'
section
variable (w : World) (v : Value)
set_option maxRecDepth 100000 in
theorem read_no (h : NoB w v) (x y : Int) : Calls Try.prog 15 #[v, .int .i64 x, .int .i64 y] w fun e w' => e = .returned (.tuple #[.slice none 0 0, .int .i64 2]) ∧ w = w' := by
  go_enter Try.func15, Try.ntmps15
  go_wp2_with fail
  refine Calls.mono h ?_
  rintro e w' ⟨rfl, rfl⟩
  go_wp2
  go_ret2
  exact ⟨rfl, rfl⟩
set_option maxRecDepth 100000 in
theorem coming_no (h : NoB w v) : Calls Try.prog 18 #[v] w fun e w' => e = .returned (.tuple #[.int .i64 0, .int .i64 0]) ∧ w = w' := by
  go_enter Try.func18, Try.ntmps18
  go_wp2_with fail
  refine Calls.mono h ?_
  rintro e w' ⟨rfl, rfl⟩
  go_wp2
  go_ret2
  exact ⟨rfl, rfl⟩
set_option maxRecDepth 100000 in
theorem crash_no (h : NoB w v) : Calls Try.prog 14 #[v] w fun e w' => e = .returned (.tuple #[]) ∧ w = w' := by
  go_enter Try.func14, Try.ntmps14
  go_wp2_with fail
  refine Calls.mono h ?_
  rintro e w' ⟨rfl, rfl⟩
  go_wp2
  go_end0
  exact ⟨rfl, rfl⟩
set_option maxRecDepth 100000 in
theorem drop_no (h : NoB w v) : Calls Try.prog 19 #[v] w fun e w' => e = .returned (.tuple #[]) ∧ w = w' := by
  go_enter Try.func19, Try.ntmps19
  go_wp2_with fail
  refine Calls.mono h ?_
  rintro e w' ⟨rfl, rfl⟩
  go_wp2
  go_end0
  exact ⟨rfl, rfl⟩
set_option maxRecDepth 100000 in
theorem sync_no (h : NoB w v) : Calls Try.prog 13 #[v] w fun e w' => e = .returned (.int .i64 0) ∧ w = w' := by
  go_enter Try.func13, Try.ntmps13
  go_wp2_with fail
  refine Calls.mono h ?_
  rintro e w' ⟨rfl, rfl⟩
  go_wp2
  go_ret
  exact ⟨rfl, rfl⟩
set_option maxRecDepth 100000 in
theorem snap_no (h : NoB w v) : Calls Try.prog 16 #[v] w fun e w' => e = .returned (.int .i64 0) ∧ w = w' := by
  go_enter Try.func16, Try.ntmps16
  go_wp2_with fail
  refine Calls.mono h ?_
  rintro e w' ⟨rfl, rfl⟩
  go_wp2
  go_ret
  exact ⟨rfl, rfl⟩
set_option maxRecDepth 100000 in
theorem take_no (i : Int) (r : Rec) (X : Option Addr) (m c : Nat) (h : NoB (w.alloc (.cells (ra r (.slice X m c)) 29)) v) : Calls Try.prog 11 #[v, .int .i64 i, .agg (ra r (.slice X m c))] w fun e w' => e = .returned (.int .i64 2) ∧ Below w.heap.size w w' := by
  have hb : Below w.heap.size w (w.alloc (.cells (ra r (.slice X m c)) 29)) := (Below.refl _ _).alloc (Nat.le_refl _) _
  go_enter Try.func11, Try.ntmps11
  go_wp2_with fail
  refine Calls.mono h ?_
  rintro e w' ⟨rfl, rfl⟩
  go_wp2
  go_ret
  exact ⟨rfl, hb⟩
end
abbrev zB : Array Value := #[.bool false, .int .i64 0, .int .i64 0, .int .i64 0, .slice none 0 0, .int .i64 0, .slice none 0 0, .int .i64 0, .int .i64 0, .int .i64 0, .slice none 0 0, .int .i64 0, .int .i64 0]
/-- The two that nobody made. -/
def noV (b : Nat) : Nat → Value | 0 => .pointer none | _ => .pointer (some ⟨b, 0, none⟩)
theorem noV_no {w : World} {b : Nat} (hz : Blk w b 59 zB) (k : Nat) : NoB w (noV b k) := by
  cases k with
  | zero => exact given_nil w
  | succ k => exact given_zero w b (hz.cell (j := 0) rfl)
section
variable (w : World)
set_option maxRecDepth 100000 in
set_option maxHeartbeats 16000000 in
theorem nobody_walk (kd : Nat) (ii : Int) (hii : I64 ii) (rr : Rec) (Y : Option Addr) (p q : Nat) :
    Calls Try.prog 6 #[.agg #[.int .u8 (kd : Int), .int .i64 ii, .int .i64 rr.k, .int .i64 rr.sh, .int .i64 rr.sn, .int .i64 rr.ba, .int .i64 rr.ma, .int .i64 rr.off, .int .i64 rr.len, .slice Y p q]] w fun e w' => e = .returned (.bool true) ∧ Below w.heap.size w w' := by
  obtain ⟨w1, hw1⟩ : ∃ w1, w.alloc (.cells #[.int .u8 (kd : Int), .int .i64 ii, .int .i64 rr.k, .int .i64 rr.sh, .int .i64 rr.sn, .int .i64 rr.ba, .int .i64 rr.ma, .int .i64 rr.off, .int .i64 rr.len, .slice Y p q] 52) = w1 := ⟨_, rfl⟩
  have hs1 : w1.heap.size = w.heap.size + 1 := by rw [← hw1]; simp
  have hb1 : Below w.heap.size w w1 := by rw [← hw1]; exact (Below.refl _ _).alloc (Nat.le_refl _) _
  have ha1 : Blk w1 w.heap.size 52 #[.int .u8 (kd : Int), .int .i64 ii, .int .i64 rr.k, .int .i64 rr.sh, .int .i64 rr.sn, .int .i64 rr.ba, .int .i64 rr.ma, .int .i64 rr.off, .int .i64 rr.len, .slice Y p q] := by rw [← hw1]; exact Blk.new w _ _ rfl
  obtain ⟨w2, hw2⟩ : ∃ w2, w1.alloc (.cells zB 59) = w2 := ⟨_, rfl⟩
  have hs2 : w2.heap.size = w.heap.size + 2 := by rw [← hw2]; simp [hs1]
  have hb2 : Below w.heap.size w w2 := by rw [← hw2]; exact hb1.alloc hb1.size _
  have ha2 := ha1.keep (show Below w1.heap.size w1 w2 by rw [← hw2]; exact (Below.refl _ _).alloc (Nat.le_refl _) _)
  have hz2 : Blk w2 (w.heap.size + 1) 59 zB := by rw [← hw2]; exact Blk.new w1 _ _ hs1.symm
  obtain ⟨w3, hw3⟩ : ∃ w3, w2.alloc (.cells #[.pointer none, .pointer (some ⟨w.heap.size + 1, 0, none⟩)] 30) = w3 := ⟨_, rfl⟩
  have hs3 : w3.heap.size = w.heap.size + 3 := by rw [← hw3]; simp [hs2]
  have hb3 : Below w.heap.size w w3 := by rw [← hw3]; exact hb2.alloc hb2.size _
  have hb23 : Below w2.heap.size w2 w3 := by rw [← hw3]; exact (Below.refl _ _).alloc (Nat.le_refl _) _
  have ha3 := ha2.keep hb23
  have hz3 := hz2.keep hb23
  have hp3 : Blk w3 (w.heap.size + 2) 30 #[.pointer none, .pointer (some ⟨w.heap.size + 1, 0, none⟩)] := by rw [← hw3]; exact Blk.new w2 _ _ hs2.symm
  clear ha1 ha2 hz2 hb1 hb2 hb23
  go_enter Try.func6, Try.ntmps6
  go_wp2_with fail
  go_loopw [20] (fun iv wr => ∃ k : Nat, k ≤ 2 ∧ iv = .int .i64 (k : Int) ∧ Below w3.heap.size w3 wr) (fun iv _ => 2 - (intOf iv).toNat)
  case atStart => exact ⟨0, Nat.zero_le _, rfl, Below.refl _ _⟩
  case round =>
    obtain ⟨k, hk, rfl, hb⟩ := hrel
    have hzr := hz3.keep hb
    have hpr := hp3.keep hb
    have har := ha3.keep hb
    clear hw1 hw2 hw3
    by_cases hlt : k < 2
    · have hil : (k : Int) < 2 := by omega
      have hi0 : (0 : Int) ≤ (k : Int) := by omega
      have hcv : wr.cell? ⟨w.heap.size + 2, k, none⟩ = some (noV (w.heap.size + 1) k) := by
        match k, hlt with
        | 0, _ => exact hpr.cell (j := 0) rfl
        | 1, _ => exact hpr.cell (j := 1) rfl
      have hno := noV_no hzr k
      have hT := take_no wr (noV (w.heap.size + 1) k) ii rr Y p q (noV_no (hzr.alloc _) k)
      obtain ⟨v, hv⟩ : ∃ v, noV (w.heap.size + 1) k = v := ⟨_, rfl⟩
      have hno2 : ∀ W, Below wr.heap.size wr W → NoB W v := fun W hW => by rw [← hv]; exact noV_no (hzr.keep hW) k
      rw [hv] at hcv hno hT
      have x1 := har.cell (j := 1) (u := .int .i64 ii) rfl
      have x2 := har.cell (j := 2) (u := .int .i64 rr.k) rfl
      have x3 := har.cell (j := 3) (u := .int .i64 rr.sh) rfl
      have x4 := har.cell (j := 4) (u := .int .i64 rr.sn) rfl
      have x5 := har.cell (j := 5) (u := .int .i64 rr.ba) rfl
      have x6 := har.cell (j := 6) (u := .int .i64 rr.ma) rfl
      have x7 := har.cell (j := 7) (u := .int .i64 rr.off) rfl
      have x8 := har.cell (j := 8) (u := .int .i64 rr.len) rfl
      have x9 := har.cell (j := 9) (u := .slice Y p q) rfl
      clear hv hzr hpr har ha3 hz3 hp3
      go_wp2_with fail
      refine (read_no wr v hno 0 0).mono ?_
      rintro e w' ⟨rfl, rfl⟩
      go_wp2_with fail
      refine (coming_no wr v hno).mono ?_
      rintro e w' ⟨rfl, rfl⟩
      go_wp2_with fail
      refine (crash_no wr v hno).mono ?_
      rintro e w' ⟨rfl, rfl⟩
      go_wp2_with fail
      refine (drop_no wr v hno).mono ?_
      rintro e w' ⟨rfl, rfl⟩
      go_wp2_with fail
      refine hT.mono ?_
      rintro e w4 ⟨rfl, hb4⟩
      have hno4 := hno2 w4 hb4
      have hb5 := below_step hb hb4 (Nat.le_refl _)
      clear hno hno2 hT x1 x2 x3 x4 x5 x6 x7 x8 x9 hcv hb4
      go_wp2_with fail
      refine (sync_no w4 v hno4).mono ?_
      rintro e w' ⟨rfl, rfl⟩
      go_wp2_with fail
      refine (snap_no w4 v hno4).mono ?_
      rintro e w' ⟨rfl, rfl⟩
      clear hno4
      go_wp2
      go_roundw
      case rel => exact ⟨k + 1, by omega, by go_num, hb5⟩
      case measure => simp [intOf]; omega
    · have hin : (2 : Int) ≤ (k : Int) := by omega
      have hB : Below w.heap.size w wr := hb3.trans (hb.mono hb3.size)
      obtain ⟨wo, rfl⟩ : ∃ wo : World, wo = wr := ⟨_, rfl⟩
      clear hzr hpr har ha3 hz3 hp3 hb hb3
      go_wp2_with fail
      refine (new_u wo 0 0 4 (Int.le_refl _) zi64 (Int.le_refl _) zi64 (by omega)).mono ?_
      rintro e w5 ⟨b, rfl, hB5, hbb, hb5⟩
      have hbl := hB5.lt
      go_wp2_with fail
      refine (small_ w5).mono ?_
      rintro e w6 ⟨rfl, hw6⟩
      have hb56 := smW_below w5
      have hn6 : Blk (smW w5) (w5.heap.size + 1) 29 (smA w5.heap.size) := Blk.new (w5.alloc _) _ _ (by simp)
      have hd6 := sW_dat w5
      have hv6 : Blk (smW w5) w5.heap.size 62 #[.int .u64 5] := (Blk.new w5 _ _ rfl).alloc _
      have hz6 : (smW w5).heap.size = w5.heap.size + 2 := by simp
      rw [← hw6] at hb56 hn6 hd6 hv6 hz6
      obtain ⟨D, hD⟩ : ∃ D, w5.heap.size = D := ⟨_, rfl⟩
      have hB6 : Be w6 b (fun k => k ≠ D) (sk 0) := (hB5.mono (U' := fun k => k ≠ D) (fun k hk _ => by omega)).below hb56
      have hBo : Below w.heap.size w w6 := below_step (below_step hB hb5 (Nat.le_refl _)) hb56 (Nat.le_refl _)
      have hbD : b < D := by omega
      have hwb : w.heap.size ≤ b := Nat.le_trans hB.size hbb
      rw [hD] at hn6 hd6 hv6 hz6
      rw [hD]
      have hU6 : ∀ W : World, w6.heap.size ≤ W.heap.size → ∀ k, W.heap.size ≤ k → k ≠ D := fun W hW k hk => by omega
      clear hw6 hb56 hB5 hb5 hB hbb hD hbl
      have hT0 := take_ w6 b (fun k => k ≠ D) (sk 0) 0 sH none 0 0 hB6 (hU6 w6 (Nat.le_refl _)) zi64 (rdt_nil _ sH rfl sH_fit)
      rw [sk_ok0] at hT0
      have r0 := hn6.cell (j := 0) (u := .int .i64 1) rfl
      have r1 := hn6.cell (j := 1) (u := .int .i64 0) rfl
      have r2 := hn6.cell (j := 2) (u := .int .i64 1) rfl
      have r3 := hn6.cell (j := 3) (u := .int .i64 0) rfl
      have r4 := hn6.cell (j := 4) (u := .int .i64 0) rfl
      have r5 := hn6.cell (j := 5) (u := .int .i64 0) rfl
      have r6 := hn6.cell (j := 6) (u := .int .i64 4) rfl
      have r7 := hn6.cell (j := 7) (u := .slice none 0 0) rfl
      go_wp2_with fail
      refine hT0.mono ?_
      rintro e w7 ⟨rfl, hB7, hg7⟩
      have hB7 : Be w7 b (fun k => k ≠ D) (sk 1) := hB7
      have hRb : some (D + 1) ≠ some b := fun e => by injection e with e; omega
      have hDb : some D ≠ some b := fun e => by injection e with e; omega
      have hn7 := hn6.grown hg7 hRb
      have hv7 := hv6.grown hg7 hDb
      have hd7 := rdt_grown hd6 hg7 (fun a ha _ e => by injection ha with ha; subst ha; exact hDb (by rw [e]))
      have hs7 := hg7.size
      have hBo7 : Below w.heap.size w w7 := hBo.grown hg7 hBo.size (fun j hj => by injection hj with hj; omega)
      clear hT0 hg7 hn6 hv6 hd6 hB6 hBo r0 r1 r2 r3 r4 r5 r6 r7
      have hT1 := take_ w7 b (fun k => k ≠ D) (sk 1) 1 sW (some ⟨D, 0, none⟩) 1 1 hB7 (hU6 w7 hs7) (i64s (by omega) (by omega)) hd7
      rw [sk_ok1] at hT1
      have r8 := hn7.cell (j := 8) (u := .int .i64 2) rfl
      have r9 := hn7.cell (j := 9) (u := .int .i64 0) rfl
      have r10 := hn7.cell (j := 10) (u := .int .i64 0) rfl
      have r11 := hn7.cell (j := 11) (u := .int .i64 0) rfl
      have r12 := hn7.cell (j := 12) (u := .int .i64 0) rfl
      have r13 := hn7.cell (j := 13) (u := .int .i64 2) rfl
      have r14 := hn7.cell (j := 14) (u := .int .i64 0) rfl
      have r15 := hn7.cell (j := 15) (u := .slice (some ⟨D, 0, none⟩) 1 1) rfl
      go_wp2_with fail
      refine hT1.mono ?_
      rintro e w8 ⟨rfl, hB8, hg8⟩
      have hB8 : Be w8 b (fun k => k ≠ D) (sk 2) := hB8
      have hn8 := hn7.grown hg8 hRb
      have hv8 := hv7.grown hg8 hDb
      have hs8 := Nat.le_trans hs7 hg8.size
      have hBo8 : Below w.heap.size w w8 := hBo7.grown hg8 hBo7.size (fun j hj => by injection hj with hj; omega)
      clear hT1 hg8 hn7 hv7 hd7 hB7 hBo7 r8 r9 r10 r11 r12 r13 r14 r15
      have r15 := hn8.cell (j := 15) (u := .slice (some ⟨D, 0, none⟩) 1 1) rfl
      have v0 := hv8.cell (j := 0) (u := .int .u64 5) rfl
      have vz := hv8.free 0
      obtain ⟨w9, hw9⟩ : ∃ w9, w8.setCell ⟨D, 0, none⟩ (.int .u64 9) = w9 := ⟨_, rfl⟩
      have hg9 : w8.grownBy w9 (some D) := by rw [← hw9]; exact grown_setCell w8 ⟨D, 0, none⟩ _
      have hB9 := hB8.grown hg9 (by omega) (by simp)
      have hn9 := hn8.grown hg9 (fun e => by injection e with e; omega)
      have hBo9 : Below w.heap.size w w9 := hBo8.grown hg9 hBo8.size (fun j hj => by injection hj with hj; omega)
      have hs9 := Nat.le_trans hs8 hg9.size
      have r16 := hn9.cell (j := 16) (u := .int .i64 4) rfl
      have r17 := hn9.cell (j := 17) (u := .int .i64 0) rfl
      have r18 := hn9.cell (j := 18) (u := .int .i64 0) rfl
      have r19 := hn9.cell (j := 19) (u := .int .i64 0) rfl
      have r20 := hn9.cell (j := 20) (u := .int .i64 0) rfl
      have r21 := hn9.cell (j := 21) (u := .int .i64 0) rfl
      have r22 := hn9.cell (j := 22) (u := .int .i64 1) rfl
      have r23 := hn9.cell (j := 23) (u := .slice none 0 0) rfl
      have hT2 := take_ w9 b (fun k => k ≠ D) (sk 2) 2 sT none 0 0 hB9 (hU6 w9 hs9) (i64s (by omega) (by omega)) (rdt_nil _ sT rfl sT_fit)
      rw [sk_ok2] at hT2
      clear hn8 hv8 hB8 hBo8 hg9 hB9 hn9
      go_wp2_with fail
      refine hT2.mono ?_
      rintro e w10 ⟨rfl, hB10, hg10⟩
      have hBo10 : Below w.heap.size w w10 := hBo9.grown hg10 hBo9.size (fun j hj => by injection hj with hj; omega)
      have hB10 : Be w10 b (fun k => k < w10.heap.size) (sk 3) := Be.mono hB10 (fun k hk _ => hk)
      have hbl := hB10.lt
      clear hT2 hg10 hBo9 hw9 r15 v0 vz r16 r17 r18 r19 r20 r21 r22 r23 hU6
      have hrd : Calls Try.prog 15 #[.pointer (some ⟨b, 0, none⟩), .int .i64 0, .int .i64 4] w10 (fun e w' => AnsN w10 w' e 0 [0, 0, 5, 0]) := by
        have := bread_ w10 b _ (sk 3) hB10
        rw [sk_n, sk_vol] at this
        exact this
      go_wp2_with fail
      refine hrd.mono ?_
      rintro e w11 ⟨A11, p11, q11, rfl, hG11, hb11⟩
      obtain rfl : p11 = 4 := by have := hG11.ns.len; simpa using this
      obtain ⟨g, cap, cur, ev, -, -, hgb, hblk, -, -⟩ := own_cells hG11.own (by omega)
      injection ev with ev _ _
      subst ev
      obtain ⟨q2c, -, q2z⟩ := Blo.own_at hG11.own (j := 2) (by omega)
      have q2 : w11.cell? ⟨g, 2, none⟩ = some (.int .u64 5) := q2c.trans rfl
      have hB11 := hB10.below hb11
      have hBo11 := below_step hBo10 hb11 (Nat.le_refl _)
      obtain ⟨w12, hw12⟩ : ∃ w12, w11.setCell ⟨g, 2, none⟩ (.int .u64 7) = w12 := ⟨_, rfl⟩
      have hg12 : w11.grownBy w12 (some g) := by rw [← hw12]; exact grown_setCell w11 ⟨g, 2, none⟩ _
      have hB12 := hB11.grown hg12 (by omega) (by omega)
      have hBo12 : Below w.heap.size w w12 := hBo11.grown hg12 hBo11.size (fun j hj => by injection hj with hj; omega)
      have hrd2 := breadp_ w12 b _ (sk 3) 2 1 hB12 (by rw [sk_n]; omega) (by omega)
      rw [sk_vol] at hrd2
      clear hrd hG11 hb11 hblk q2c hB10 hB11 hg12
      go_wp2_with fail
      refine hrd2.mono ?_
      rintro e w13 ⟨A13, p13, q13, rfl, hG13, hb13⟩
      obtain ⟨g3, o3, x3, rfl, hx3, cx3⟩ := Blo.ns_get hG13.ns (i := 0) (by have := hG13.ns.len; simp at this; omega)
      obtain rfl : p13 = 1 := by have := hG13.ns.len; simpa using this
      simp at hx3
      subst hx3
      simp only [Nat.add_zero] at cx3
      have hBo13 := below_step hBo12 hb13 (Nat.le_refl _)
      clear hrd2 hG13 hb13 hB12 hw12
      go_wp2_with fail
      refine (alive_ w13).mono ?_
      rintro e w14 ⟨rfl, hb14⟩
      have hBo14 := below_step hBo13 hb14 (Nat.le_refl _)
      go_wp2
      go_ret
      exact ⟨rfl, hBo14⟩
end
end Lan
open Lan Str

set_option maxRecDepth 100000 in
theorem landNobody_lifted (os : Os) (started : os.Started) (H : Type) (enc : TypeId × Value → H) :
    ReturnsInHanded {} Try.checked os 6 .any (Rows.landNobodySpec.pre6 enc Try.prog Try.f6 Rows.landNobodyRow.domain false) (Rows.landNobodySpec.post enc Try.prog Try.f6 false true false false) := by
  refine law_lifted (C := Try.checked) (tb := 4) own_ started (by kernel_rfl) Try.func6
    (ChangeSpec.witness6 (enc := enc) (C := Try.checked) false ⟨#[], #[.agg #[.int .u8 0, .int .i64 0, .int .i64 0, .int .i64 0, .int .i64 0, .int .i64 0, .int .i64 0, .int .i64 0, .int .i64 0, .slice none 0 0]], []⟩ 8 (by kernel_rfl) (by kernel_rfl) (by kernel_rfl) (by kernel_rfl))
    rfl rfl Try.underlying4 laidOut_ (by kernel_rfl) (fun ds h => by match ds, h with | [_], _ => rfl) ?_
  intro W base args ds p hval0 hA0 _ hsz0
  have hval : ∀ (j : Nat) t v, Try.f6.params[j]? = some t → args[j]? = some v → Value.okWide Try.prog W .any base t v := hval0
  have hA : DataW.TrodAll enc Try.prog W 0 (fun _ => true) true Try.f6.params.toList args.toList ds p := hA0
  have hsz : (DataW.weightsEach Try.prog Try.f6.params.toList ds).all (· ≤ reachBytes) = true := hsz0
  clear hval0 hA0 hsz0
  rw [Try.params6] at hA hval hsz
  obtain ⟨v0, d0, rfl, rfl, h0⟩ := trodAll_one hA
  obtain ⟨cs0, a0, rfl, r0, b0⟩ := arg_struct ops_act Try.underlying52 (hval 0 _ v0 rfl rfl) h0 (weight_at hsz (j := 0) rfl rfl)
  obtain ⟨X, m, c, rfl, hi, hd⟩ := act_arr r0
  exact nobody_walk W _ _ hi _ X m c

/-- LandNobody, for every input: the statement as it was given. -/
theorem landNobody_holds : Rows.LandNobodySaid :=
  OpenClaim.holds_of_wide 6 Try.f6 rfl rfl rfl rfl rfl rfl rfl ⟨rfl, rfl, rfl, rfl, rfl⟩ rfl rfl rfl rfl rfl (by kernel_rfl) Try.func6 (by kernel_rfl)
    (of_decide_eq_true (by kernel_rfl)) (by unfold Func.isWrapper; first | (rw [if_pos (by decide +kernel)]; kernel_rfl) | (rw [if_neg (by decide +kernel)]; exact ⟨rfl, rfl⟩))
    (fun os started H enc _ => landNobody_lifted os started H enc)
end Go.Proofs.Ytganoklclnbjkaa
