/- XLanI, XLanJ. -/
import Derived.Test.YtganoklclnbjkaaLanH
set_option linter.all false
namespace Go.Proofs.Ytganoklclnbjkaa
open Go.RowKit
namespace Lan
open Str (Rec mayB opOf FitR Rdt Rcl ra oa k4 k8 rc_blk)
open Blo (I64 apL apE GotN AnsN)
theorem grown_dN (w : World) (n : Nat) (row : Option Nat) : w.grownBy (w.drewN n) row := ⟨rfl, rfl, rfl, Nat.le_refl _, fun _ _ _ => rfl⟩
section
variable (w : World) (b : Nat) (U : Nat → Prop) (s : BS)
set_option maxRecDepth 100000 in
set_option maxHeartbeats 4000000 in
theorem begin_no (i : Int) (r : Rec) (X : Option Addr) (m c : Nat) (h : Be w b U s) (hi : I64 i) (hne : begE s i r ≠ 0) :
    Calls Try.prog 25 #[.pointer (some ⟨b, 0, none⟩), .int .i64 i, .agg (ra r (.slice X m c))] w fun e w' => e = .returned (.int .i64 (begE s i r)) ∧ Be w' b U s ∧ w.grownBy w' (some b) := by
  obtain ⟨w1, hw1⟩ : ∃ w1, w.alloc (.cells (ra r (.slice X m c)) 29) = w1 := ⟨_, rfl⟩
  have hs1 : w1.heap.size = w.heap.size + 1 := by rw [← hw1]; simp
  have hb1 : Below w.heap.size w w1 := by rw [← hw1]; exact (Below.refl _ _).alloc (Nat.le_refl _) _
  have hr1 : Blk w1 w.heap.size 29 (ra r (.slice X m c)) := by rw [← hw1]; exact Blk.new w _ _ rfl
  obtain ⟨c0, c1, c2, c3, c4, c5, c6, c7⟩ := k8 hr1
  have h1 := h.below hb1
  have hR : ∀ k, Be (w1.drewN k) b U s := fun k => h1.drewN k
  have hg : ∀ k, w.grownBy (w1.drewN k) (some b) := fun k => below_grown (below_drewN hb1 k) (some b)
  have hln : (h : Be w b U s) → s.n ≤ 1024 := fun h => h.ok.most
  have hm := hln h
  obtain ⟨A0, n0, c0', A1, n1, c1', A2, n2, c2', hX⟩ := h1
  have hn0 : n0 = s.n := hX.v0.ns.len.trans hX.ok.len
  subst hn0
  have d1 := hX.blk.cell (j := 1) (u := .int .i64 s.sh) rfl
  have d2 := hX.blk.cell (j := 2) (u := .int .i64 s.ve) rfl
  have d3 := hX.blk.cell (j := 3) (u := .int .i64 s.num) rfl
  have d4 := hX.blk.cell (j := 4) (u := .slice A0 s.n c0') rfl
  clear hX h hln
  by_cases q0 : i = 0
  · subst q0
    by_cases q1 : r.k = 1
    · have p1 : (r.k != 1) = false := by simpa using q1
      by_cases q2 : r.sh = s.sh
      · have p2 : (r.sh != s.sh) = false := by simpa using q2
        by_cases q3 : r.len = (s.n : Int)
        · have p3 : (r.len != (s.n : Int)) = false := by simpa using q3
          by_cases q4 : r.ma = s.ve
          · have p4 : (r.ma != s.ve) = false := by simpa using q4
            by_cases q5 : r.sn = s.num
            · have p5 : (r.sn == s.num) = true := by simpa using q5
              have HE := Lib.hid (show begE s 0 r = 10 by unfold begE; simp [q1, q2, q3, q4, q5])
              rw [HE.out]
              clear q1 q2 q3 q4 q5 hne
              go_enter Try.func25, Try.ntmps25
              go_wp2_with fail
              go_quiet (fail)
              go_wp2_with fail
              go_quiet (fail)
              go_wp2_with fail
              go_quiet (fail)
              go_wp2
              go_ret
              exact ⟨rfl, ((hR _).drewN _).drewN _, World.grownBy.trans (World.grownBy.trans (hg _) (grown_dN _ _ _)) (grown_dN _ _ _)⟩
            · have p5 : (r.sn == s.num) = false := by simpa using q5
              by_cases q6 : r.sn = 0
              · have p6 : (r.sn == 0) = true := by simpa using q6
                have HE := Lib.hid (show begE s 0 r = 10 by unfold begE; simp [q1, q2, q3, q4, q6])
                rw [HE.out]
                clear q1 q2 q3 q4 q5 q6 hne
                go_enter Try.func25, Try.ntmps25
                go_wp2_with fail
                go_quiet (fail)
                go_wp2_with fail
                go_quiet (fail)
                go_wp2_with fail
                go_quiet (fail)
                go_wp2
                go_ret
                exact ⟨rfl, ((hR _).drewN _).drewN _, World.grownBy.trans (World.grownBy.trans (hg _) (grown_dN _ _ _)) (grown_dN _ _ _)⟩
              · have p6 : (r.sn == 0) = false := by simpa using q6
                have q7 : ¬ r.ba = s.num := fun e => hne (by unfold begE; simp [q1, q2, q3, q4, q5, q6, e])
                have q8 : ¬ r.ba = 0 := fun e => hne (by unfold begE; simp [q1, q2, q3, q4, q5, q6, e])
                have p7 : (r.ba != s.num) = true := by simpa using q7
                have p8 : (r.ba != 0) = true := by simpa using q8
                have HE := Lib.hid (show begE s 0 r = 12 by unfold begE; simp [q1, q2, q3, q4, q5, q6, q7, q8])
                rw [HE.out]
                clear q1 q2 q3 q4 q5 q6 q7 q8 hne
                go_enter Try.func25, Try.ntmps25
                go_wp2_with fail
                go_quiet (fail)
                go_wp2_with fail
                go_quiet (fail)
                go_wp2_with fail
                go_quiet (fail)
                go_wp2_with fail
                go_quiet (fail)
                go_wp2
                go_ret
                exact ⟨rfl, (((hR _).drewN _).drewN _).drewN _, World.grownBy.trans (World.grownBy.trans (World.grownBy.trans (hg _) (grown_dN _ _ _)) (grown_dN _ _ _)) (grown_dN _ _ _)⟩
          · have p4 : (r.ma != s.ve) = true := by simpa using q4
            have HE := Lib.hid (show begE s 0 r = 13 by unfold begE; simp [q1, q2, q3, q4])
            rw [HE.out]
            clear q1 q2 q3 q4 hne
            go_enter Try.func25, Try.ntmps25
            go_wp2_with fail
            go_quiet (fail)
            go_wp2_with fail
            go_quiet (fail)
            go_wp2
            go_ret
            exact ⟨rfl, (hR _).drewN _, World.grownBy.trans (hg _) (grown_dN _ _ _)⟩
        · have p3 : (r.len != (s.n : Int)) = true := by simpa using q3
          have HE := Lib.hid (show begE s 0 r = 1 by unfold begE; simp [q1, q2, q3])
          rw [HE.out]
          clear q1 q2 q3 hne
          go_enter Try.func25, Try.ntmps25
          go_wp2_with fail
          go_quiet (fail)
          go_wp2
          go_ret
          exact ⟨rfl, hR _, hg _⟩
      · have p2 : (r.sh != s.sh) = true := by simpa using q2
        have HE := Lib.hid (show begE s 0 r = 1 by unfold begE; simp [q1, q2])
        rw [HE.out]
        clear q1 q2 hne
        go_enter Try.func25, Try.ntmps25
        go_wp2_with fail
        go_quiet (fail)
        go_wp2
        go_ret
        exact ⟨rfl, hR _, hg _⟩
    · have p1 : (r.k != 1) = true := by simpa using q1
      have HE := Lib.hid (show begE s 0 r = 14 by unfold begE; simp [q1])
      rw [HE.out]
      clear q1 hne
      go_enter Try.func25, Try.ntmps25
      go_wp2
      go_ret
      exact ⟨rfl, hR 0, hg 0⟩
  · have p0 : (i != 0) = true := by simpa using q0
    have HE := Lib.hid (show begE s i r = 15 by unfold begE; simp [q0])
    rw [HE.out]
    clear q0 hne
    go_enter Try.func25, Try.ntmps25
    go_wp2
    go_ret
    exact ⟨rfl, hR 0, hg 0⟩
end
end Lan
end Go.Proofs.Ytganoklclnbjkaa

set_option linter.all false
namespace Go.Proofs.Ytganoklclnbjkaa
open Go.RowKit
namespace Lan
open Str (Rec mayB opOf FitR Rdt Rcl ra oa k4 k8 rc_blk)
open Blo (I64 apL apE GotN AnsN)
theorem beg_ok {s : BS} {i : Int} {r : Rec} (h : begE s i r = 0) : i = 0 ∧ r.k = 1 ∧ r.sh = s.sh ∧ r.len = (s.n : Int) ∧ r.ma = s.ve ∧ ¬ r.sn = s.num ∧ ¬ r.sn = 0 ∧ (r.ba = 0 ∨ r.ba = s.num) := by
  unfold begE at h
  split at h
  · cases h
  · split at h
    · cases h
    · split at h
      · cases h
      · split at h
        · cases h
        · split at h
          · cases h
          · split at h
            · cases h
            · rename_i a1 a2 a3 a4 a5 a6
              exact ⟨by omega, by omega, by omega, by omega, by omega, by omega, by omega, by omega⟩
theorem beg_done {w w1 w5 : World} {b : Nat} {U : Nat → Prop} {s : BS} {r : Rec} {A0 A1 A2 : Option Addr} {n0 c0 n1 c1 n2 c2 : Nat} (hok : Ok s) (hblt : b < w.heap.size) (hU : ∀ k, w.heap.size ≤ k → U k) (hsn : I64 r.sn) (hb1 : Below w.heap.size w w1) (hs1 : w1.heap.size = w.heap.size + 1) (hX : BeX w1 b U s A0 n0 c0 A1 n1 c1 A2 n2 c2) (hb15 : Below w1.heap.size w1 w5) (hk5 : Blk w5 w1.heap.size 62 (madeCells (Value.int IntKind.u64 0).cells (s.n * 1))) (HB : begA s r = ⟨r.sn, List.replicate s.n 0, 1, 0⟩) :
    Ending.returned (Value.int .i64 0) = .returned (.int .i64 0) ∧ Be ((((w5.setCell ⟨b, 5, none⟩ (.int .i64 r.sn)).setCell ⟨b, 6, none⟩ (.slice (some ⟨w.heap.size + 1, 0, none⟩) s.n s.n)).setCell ⟨b, 7, none⟩ (.int .i64 1)).setCell ⟨b, 8, none⟩ (.int .i64 0)) b U { s with c := begA s r } ∧ w.grownBy ((((w5.setCell ⟨b, 5, none⟩ (.int .i64 r.sn)).setCell ⟨b, 6, none⟩ (.slice (some ⟨w.heap.size + 1, 0, none⟩) s.n s.n)).setCell ⟨b, 7, none⟩ (.int .i64 1)).setCell ⟨b, 8, none⟩ (.int .i64 0)) (some b) := by
  have hA := begA_ok (s := s) (r := r) hok hsn
  have hgr := grown4 w5 b 5 6 7 8 (.int .i64 r.sn) (.slice (some ⟨w.heap.size + 1, 0, none⟩) s.n s.n) (.int .i64 1) (.int .i64 0)
  have hset := bea_set4 (hX.blk.keep hb15) (.int .i64 r.sn) (.slice (some ⟨w.heap.size + 1, 0, none⟩) s.n s.n) (.int .i64 1) (.int .i64 0)
  have hm := hok.most
  have hV : Vol w5 b U (some ⟨w.heap.size + 1, 0, none⟩) s.n s.n (List.replicate s.n 0) := by
    rw [← hs1]
    exact Vol.own (base := w1.heap.size) (Blo.own_blk hk5 (Nat.le_refl _) (by unfold maxLen; omega) (by rw [Nat.mul_one, Blo.nvs_repl]; exact Blo.made_list s.n _) (by rw [nvs_length]; simp)) (fun z hz => by rw [List.eq_of_mem_replicate hz]; omega) (by omega) (fun k hk => hU k (by omega))
  have hV1 : Vol w5 b U (some ⟨w.heap.size + 1, 0, none⟩) s.n s.n (begA s r).vol := by rw [HB]; exact hV
  refine ⟨rfl, ⟨_, _, _, _, _, _, _, _, _, ?_, (hX.v0.below hb15).grown hgr self_row, hV1.grown hgr self_row, (hX.v2.below hb15).grown hgr self_row, ⟨hm, hok.len, hA, hok.oky, hok.sh, hok.ve, hok.num⟩⟩, World.grownBy.trans (below_grown (hb1.trans (hb15.mono hb1.size)) (some b)) hgr⟩
  have e : bea { s with c := begA s r } (.slice A0 n0 c0) (.slice (some ⟨w.heap.size + 1, 0, none⟩) s.n s.n) (.slice A2 n2 c2) = #[.bool true, .int .i64 s.sh, .int .i64 s.ve, .int .i64 s.num, .slice A0 n0 c0, .int .i64 r.sn, .slice (some ⟨w.heap.size + 1, 0, none⟩) s.n s.n, .int .i64 1, .int .i64 0, .int .i64 s.y.num, .slice A2 n2 c2, .int .i64 (s.y.ct : Int), .int .i64 (s.y.en : Int)] := by
    unfold bea
    rw [HB]
    rfl
  rw [e]
  exact hset
section
variable (w : World) (b : Nat) (U : Nat → Prop) (s : BS)
set_option maxRecDepth 100000 in
set_option maxHeartbeats 4000000 in
theorem begin_zero (r : Rec) (X : Option Addr) (m c : Nat) (h : Be w b U s) (hU : ∀ k, w.heap.size ≤ k → U k) (hsn : I64 r.sn) (hE : begE s 0 r = 0) (hba : r.ba = 0) :
    Calls Try.prog 25 #[.pointer (some ⟨b, 0, none⟩), .int .i64 0, .agg (ra r (.slice X m c))] w fun e w' => e = .returned (.int .i64 0) ∧ Be w' b U { s with c := begA s r } ∧ w.grownBy w' (some b) := by
  obtain ⟨i0, hi0, hz0, hz1, hz2⟩ := u64_info
  have Hz := Lib.hid hz2
  clear hz2
  obtain ⟨w1, hw1⟩ : ∃ w1, w.alloc (.cells (ra r (.slice X m c)) 29) = w1 := ⟨_, rfl⟩
  have hs1 : w1.heap.size = w.heap.size + 1 := by rw [← hw1]; simp
  have hb1 : Below w.heap.size w w1 := by rw [← hw1]; exact (Below.refl _ _).alloc (Nat.le_refl _) _
  have hr1 : Blk w1 w.heap.size 29 (ra r (.slice X m c)) := by rw [← hw1]; exact Blk.new w _ _ rfl
  obtain ⟨c0, c1, c2, c3, c4, c5, c6, c7⟩ := k8 hr1
  have h1 := h.below hb1
  have hok := h.ok
  have hm := hok.most
  have hblt := h.lt
  have HB := Lib.hid (show begA s r = ⟨r.sn, List.replicate s.n 0, 1, 0⟩ by unfold begA; rw [if_pos hba])
  obtain ⟨A0, n0, c0', A1, n1, c1', A2, n2, c2', hX⟩ := id h1
  have hn0 : n0 = s.n := hX.v0.ns.len.trans hX.ok.len
  subst hn0
  have d1 := hX.blk.cell (j := 1) (u := .int .i64 s.sh) rfl
  have d2 := hX.blk.cell (j := 2) (u := .int .i64 s.ve) rfl
  have d3 := hX.blk.cell (j := 3) (u := .int .i64 s.num) rfl
  have d4 := hX.blk.cell (j := 4) (u := .slice A0 s.n c0') rfl
  obtain ⟨-, q1, q2, q3, q4, q5, q6, -⟩ := beg_ok hE
  have p1 : (r.k != 1) = false := by simpa using q1
  have p2 : (r.sh != s.sh) = false := by simpa using q2
  have p3 : (r.len != (s.n : Int)) = false := by simpa using q3
  have p4 : (r.ma != s.ve) = false := by simpa using q4
  have p5 : (r.sn == s.num) = false := by simpa using q5
  have p6 : (r.sn == 0) = false := by simpa using q6
  have p8 : (r.ba != 0) = false := by simpa using hba
  have p9 : (r.ba == 0) = true := by simpa using hba
  clear q1 q2 q3 q4 q5 q6 hE hba h h1
  by_cases q7 : r.ba = s.num
  · have p7 : (r.ba != s.num) = false := by simpa using q7
    clear q7
    go_enter Try.func25, Try.ntmps25
    go_wp2_with fail
    go_quiet (fail)
    go_wp2_with fail
    go_quiet (fail)
    go_wp2_with fail
    go_quiet (fail)
    go_wp2_with fail
    go_quiet (fail)
    go_wp2_with (first
      | (at_make
         refine wpList_make_blk _ rfl _ _ 27 rfl 62 i0 _ 1 8 Try.underlying27 hi0 hz0 hz1 Hz.out .i64 .i64 _ _ s.n rfl rfl rfl rfl (by omega) (by omega) ?_
         intro w5 hk5 hb5 hs5
         have hb15 : Below w1.heap.size w1 w5 := Blo.below_ofDrewN hb5
         have e2 := (k8 (hr1.keep hb15)).2.2.1
         have hblk := hX.blk.keep hb15
         have f5 := hblk.cell (j := 5) (u := .int .i64 s.c.num) rfl
         have f6 := hblk.cell (j := 6) (u := .slice A1 n1 c1') rfl
         have f7 := hblk.cell (j := 7) (u := .int .i64 (s.c.ct : Int)) rfl
         have f8 := hblk.cell (j := 8) (u := .int .i64 (s.c.en : Int)) rfl
         have hz := hblk.free)
      | fail)
    go_ret
    exact beg_done hok hblt hU hsn hb1 hs1 hX hb15 hk5 HB.out
  · have p7 : (r.ba != s.num) = true := by simpa using q7
    clear q7
    go_enter Try.func25, Try.ntmps25
    go_wp2_with fail
    go_quiet (fail)
    go_wp2_with fail
    go_quiet (fail)
    go_wp2_with fail
    go_quiet (fail)
    go_wp2_with fail
    go_quiet (fail)
    go_wp2_with (first
      | (at_make
         refine wpList_make_blk _ rfl _ _ 27 rfl 62 i0 _ 1 8 Try.underlying27 hi0 hz0 hz1 Hz.out .i64 .i64 _ _ s.n rfl rfl rfl rfl (by omega) (by omega) ?_
         intro w5 hk5 hb5 hs5
         have hb15 : Below w1.heap.size w1 w5 := Blo.below_ofDrewN hb5
         have e2 := (k8 (hr1.keep hb15)).2.2.1
         have hblk := hX.blk.keep hb15
         have f5 := hblk.cell (j := 5) (u := .int .i64 s.c.num) rfl
         have f6 := hblk.cell (j := 6) (u := .slice A1 n1 c1') rfl
         have f7 := hblk.cell (j := 7) (u := .int .i64 (s.c.ct : Int)) rfl
         have f8 := hblk.cell (j := 8) (u := .int .i64 (s.c.en : Int)) rfl
         have hz := hblk.free)
      | fail)
    go_ret
    exact beg_done hok hblt hU hsn hb1 hs1 hX hb15 hk5 HB.out
set_option maxRecDepth 100000 in
set_option maxHeartbeats 4000000 in
theorem begin_same (r : Rec) (X : Option Addr) (m c : Nat) (h : Be w b U s) (hsn : I64 r.sn) (hE : begE s 0 r = 0) (hba : ¬ r.ba = 0) :
    Calls Try.prog 25 #[.pointer (some ⟨b, 0, none⟩), .int .i64 0, .agg (ra r (.slice X m c))] w fun e w' => e = .returned (.int .i64 0) ∧ Be w' b U { s with c := begA s r } ∧ w.grownBy w' (some b) := by
  obtain ⟨w1, hw1⟩ : ∃ w1, w.alloc (.cells (ra r (.slice X m c)) 29) = w1 := ⟨_, rfl⟩
  have hs1 : w1.heap.size = w.heap.size + 1 := by rw [← hw1]; simp
  have hb1 : Below w.heap.size w w1 := by rw [← hw1]; exact (Below.refl _ _).alloc (Nat.le_refl _) _
  have hr1 : Blk w1 w.heap.size 29 (ra r (.slice X m c)) := by rw [← hw1]; exact Blk.new w _ _ rfl
  obtain ⟨c0, c1, c2, c3, c4, c5, c6, c7⟩ := k8 hr1
  have h1 := h.below hb1
  have hok := h.ok
  have hA := begA_ok (s := s) (r := r) hok hsn
  have HB := Lib.hid (show begA s r = ⟨r.sn, s.vol, 1, 0⟩ by unfold begA; rw [if_neg hba])
  obtain ⟨A0, n0, c0', A1, n1, c1', A2, n2, c2', hX⟩ := id h1
  have hn0 : n0 = s.n := hX.v0.ns.len.trans hX.ok.len
  subst hn0
  have d1 := hX.blk.cell (j := 1) (u := .int .i64 s.sh) rfl
  have d2 := hX.blk.cell (j := 2) (u := .int .i64 s.ve) rfl
  have d3 := hX.blk.cell (j := 3) (u := .int .i64 s.num) rfl
  have d4 := hX.blk.cell (j := 4) (u := .slice A0 s.n c0') rfl
  have f5 := hX.blk.cell (j := 5) (u := .int .i64 s.c.num) rfl
  have f6 := hX.blk.cell (j := 6) (u := .slice A1 n1 c1') rfl
  have f7 := hX.blk.cell (j := 7) (u := .int .i64 (s.c.ct : Int)) rfl
  have f8 := hX.blk.cell (j := 8) (u := .int .i64 (s.c.en : Int)) rfl
  have hz := hX.blk.free
  have hR : ∀ k, Be (((((w1.drewN k).setCell ⟨b, 5, none⟩ (.int .i64 r.sn)).setCell ⟨b, 6, none⟩ (.slice A0 s.n c0')).setCell ⟨b, 7, none⟩ (.int .i64 1)).setCell ⟨b, 8, none⟩ (.int .i64 0)) b U { s with c := begA s r } := fun k => by
    have hbk := below_drewN (Below.refl w1.heap.size w1) k
    have hgr := grown4 (w1.drewN k) b 5 6 7 8 (.int .i64 r.sn) (.slice A0 s.n c0') (.int .i64 1) (.int .i64 0)
    have hset := bea_set4 (hX.blk.keep hbk) (.int .i64 r.sn) (.slice A0 s.n c0') (.int .i64 1) (.int .i64 0)
    have hV1 : Vol (w1.drewN k) b U A0 s.n c0' (begA s r).vol := by rw [HB.out]; exact hX.v0.below hbk
    refine ⟨_, _, _, _, _, _, _, _, _, ?_, (hX.v0.below hbk).grown hgr self_row, hV1.grown hgr self_row, (hX.v2.below hbk).grown hgr self_row, ⟨hok.most, hok.len, hA, hok.oky, hok.sh, hok.ve, hok.num⟩⟩
    have e : bea { s with c := begA s r } (.slice A0 s.n c0') (.slice A0 s.n c0') (.slice A2 n2 c2') = #[.bool true, .int .i64 s.sh, .int .i64 s.ve, .int .i64 s.num, .slice A0 s.n c0', .int .i64 r.sn, .slice A0 s.n c0', .int .i64 1, .int .i64 0, .int .i64 s.y.num, .slice A2 n2 c2', .int .i64 (s.y.ct : Int), .int .i64 (s.y.en : Int)] := by
      unfold bea
      rw [HB.out]
      rfl
    rw [e]
    exact hset
  have hg : ∀ k, w.grownBy (((((w1.drewN k).setCell ⟨b, 5, none⟩ (.int .i64 r.sn)).setCell ⟨b, 6, none⟩ (.slice A0 s.n c0')).setCell ⟨b, 7, none⟩ (.int .i64 1)).setCell ⟨b, 8, none⟩ (.int .i64 0)) (some b) := fun k =>
    World.grownBy.trans (below_grown (below_drewN hb1 k) (some b)) (grown4 (w1.drewN k) b 5 6 7 8 (.int .i64 r.sn) (.slice A0 s.n c0') (.int .i64 1) (.int .i64 0))
  obtain ⟨-, q1, q2, q3, q4, q5, q6, q7⟩ := beg_ok hE
  have q7 : r.ba = s.num := by omega
  have p1 : (r.k != 1) = false := by simpa using q1
  have p2 : (r.sh != s.sh) = false := by simpa using q2
  have p3 : (r.len != (s.n : Int)) = false := by simpa using q3
  have p4 : (r.ma != s.ve) = false := by simpa using q4
  have p5 : (r.sn == s.num) = false := by simpa using q5
  have p6 : (r.sn == 0) = false := by simpa using q6
  have p7 : (r.ba != s.num) = false := by simpa using q7
  have p9 : (r.ba == 0) = false := by simpa using hba
  clear q1 q2 q3 q4 q5 q6 q7 hE hba h h1 hX HB hA
  go_enter Try.func25, Try.ntmps25
  go_wp2_with fail
  go_quiet (fail)
  go_wp2_with fail
  go_quiet (fail)
  go_wp2_with fail
  go_quiet (fail)
  go_wp2_with fail
  go_quiet (fail)
  go_wp2
  go_ret
  exact ⟨rfl, hR _, hg _⟩
/-- A record, while nothing comes. -/
theorem begin_ (i : Int) (r : Rec) (X : Option Addr) (m c : Nat) (h : Be w b U s) (hU : ∀ k, w.heap.size ≤ k → U k) (hi : I64 i) (hsn : I64 r.sn) :
    Calls Try.prog 25 #[.pointer (some ⟨b, 0, none⟩), .int .i64 i, .agg (ra r (.slice X m c))] w fun e w' => e = .returned (.int .i64 (begE s i r)) ∧ Be w' b U (if begE s i r = 0 then { s with c := begA s r } else s) ∧ w.grownBy w' (some b) := by
  by_cases hE : begE s i r = 0
  · obtain ⟨rfl, -⟩ := beg_ok hE
    rw [if_pos hE, hE]
    by_cases hba : r.ba = 0
    · exact begin_zero w b U s r X m c h hU hsn hE hba
    · exact begin_same w b U s r X m c h hsn hE hba
  · rw [if_neg hE]
    exact begin_no w b U s i r X m c h hi hE
end
end Lan
end Go.Proofs.Ytganoklclnbjkaa
