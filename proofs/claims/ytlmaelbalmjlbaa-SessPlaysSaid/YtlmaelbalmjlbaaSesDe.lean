/- Layer 16: the document's Recv. -/
import Derived.Test.YtlmaelbalmjlbaaSesDb
import Derived.Lib.MinMax
import Derived.BigRegion
set_option linter.all false
namespace Go.Proofs.Ytlmaelbalmjlbaa
open Go.RowKit
namespace Ses
open Net
/-- What the document's Recv answers, and leaves. -/
def RrcA (r : Nat) (U : Nat → Prop) (e : En) (m : Ms) (w w' : World) (z : Ending) : Prop :=
  ∃ v, z = .returned (.tuple #[v, .bool (isN e m), .int .i64 (wrnE e m)]) ∧ w'.ownsRow w.heap.size 5 1 v (rcvD e m).length (bvs (rcvD e m)) ∧ Rx w' r U (rcvS e m) ∧ Fu (fun k => k = r) w w'
section
variable (w : World)
set_option maxRecDepth 100000 in
set_option maxHeartbeats 8000000 in
theorem rrecv_ (r : Nat) (U : Nat → Prop) (e : En) (h : Rx w r U e) (hU : ∀ k, U k → k < w.heap.size) (hl : e.l.length ≤ 2000000000000) (hc : e.c ≤ 1000000000000000000) (m : Ms) (X : Option Addr) (n c : Nat) (hm : Mdt w m X n c) (hXb : ∀ a, X = some a → 0 < n → a.block ≠ r) :
    Calls Try.prog 18 #[.pointer (some ⟨r, 0, none⟩), .agg (ma m (.slice X n c))] w fun z w' => RrcA r U e m w w' z := by
  have hac := Blk.new w 36 (ma m (.slice X n c)) rfl
  obtain ⟨w1, hw1⟩ : ∃ w1, w.alloc (.cells (ma m (.slice X n c)) 36) = w1 := ⟨_, rfl⟩
  have hs1 : w1.heap.size = w.heap.size + 1 := by rw [← hw1]; simp
  have hb1 : Below w.heap.size w w1 := by rw [← hw1]; exact (Below.refl _ _).alloc (Nat.le_refl _) _
  rw [hw1] at hac
  have hm1 := hm.below hb1
  have h1 := h.keep hb1
  have hbl := h.lt
  have hR := rwrong_ w1 r U e h1 m X n c hm1
  have H0 := Lib.hid h
  obtain ⟨d0, d1, d2, d3, d4, d5, d6⟩ := ma_blk hac
  clear h hm
  by_cases he : wrnE e m = 0
  · obtain ⟨i1, i2, i3, i4, i5⟩ := wrn_in he
    have HK := Lib.hid (show m.k = 1 ∨ m.k = 2 from i3)
    have hI64 := hm1.fit
    obtain ⟨ac, hac'⟩ := Int.eq_ofNat_of_zero_le i1
    have Hac := Lib.hid hac'
    rw [hac'] at i2
    have hal : ac ≤ e.l.length := by omega
    have HE := Lib.hid he
    rw [he] at hR
    have H5 := Lib.hid i5
    clear he i1 i2 i3 i4 i5 hac'
    obtain ⟨A, q, cc, L, hX⟩ := h1
    go_enter Try.func18, Try.ntmps18
    go_wp2_with fail
    refine hR.mono ?_
    rintro z w2 ⟨rfl, hb2⟩
    have hac2 := hac.keep hb2
    have hX2 := hX.keep hb2
    have hm2 := hm1.below hb2
    have hB2 := below_step hb1 hb2 (by omega)
    have hs2 := hb2.size
    have hgl : w.heap.size < w2.heap.size := by omega
    have hne : ¬ w.heap.size = r := by omega
    have hne2 : ¬ r = w.heap.size := by omega
    clear d0 d1 d2 d3 d4 d5 d6 hac hX hm1 hb1 hb2 hR
    obtain ⟨_, _, d2, _, _, d5, _⟩ := ma_blk hac2
    rw [Hac.out] at d5
    obtain ⟨_, _, _, _, c4, _, _⟩ := ra_cells hX2.blk
    have f4 := hX2.blk.free 4
    obtain ⟨a0, ha0⟩ : ∃ a0, e.a = a0 := ⟨_, rfl⟩
    have Ha := Lib.hid ha0
    rw [ha0] at c4
    obtain ⟨mx, hmx⟩ : ∃ mx, max a0 ac = mx := ⟨_, rfl⟩
    have hmxi : max (a0 : Int) (ac : Int) = ((mx : Nat) : Int) := by omega
    have HX2 := Lib.hid hX2
    have hE3 := hX2.setA mx (by have := hX2.ack; omega) (by omega)
    have hA3 : ({ e with a := mx } : En) = ackS e m := by
      unfold ackS
      rw [Hac.out, Ha.out, ← hmx]; rfl
    rw [hA3] at hE3
    have hC3 : Blk (w2.setCell ⟨r, 4, none⟩ (.int .i64 (mx : Int))) w.heap.size 36 (ma m (.slice X n c)) := hac2.grown (grown_setCell w2 ⟨r, 4, none⟩ _) (fun q => by injection q with q; exact hne q)
    have hM3 := hm2.set hXb 4 (.int .i64 (mx : Int))
    have hF3 : Fu (fun k => k = r) w (w2.setCell ⟨r, 4, none⟩ (.int .i64 (mx : Int))) := fu_set1 (Fu.ofBelow hB2) 4 _
    have HE3 := Lib.hid hE3
    have HC3 := Lib.hid hC3
    have HM3 := Lib.hid hM3
    have HF3 := Lib.hid hF3
    clear hX2 ha0 hmx hE3 hC3 hM3 hF3 hA3
    go_wp2_with fail
    go_region
    all_goals (
      generalize hw4 : (w2.setCell ⟨r, 4, none⟩ (.int .i64 (mx : Int))).drew = w4
      have hX4 : RxX w4 r U (ackS e m) A q cc L := by rw [← hw4]; exact HE3.out.fu (S := fun _ => False) ((Fu.refl _ _).drew) (fun _ _ e => e) (fun e => e)
      have hC4 : Blk w4 w.heap.size 36 (ma m (.slice X n c)) := by rw [← hw4]; exact HC3.out
      have hM4 : Mdt w4 m X n c := by rw [← hw4]; exact ⟨Bs.drew HM3.out.bs, HM3.out.nil, HM3.out.le, HM3.out.cap, HM3.out.far, HM3.out.fit⟩
      have hF4 : Fu (fun k => k = r) w w4 := by rw [← hw4]; exact HF3.out.drew
      clear hw4 d2 d5 c4 f4 hac2 hm2 hB2 HX2 HE3 HC3 HM3 HF3
      obtain ⟨_, _, d2, _, _, _, _⟩ := ma_blk hC4
      have c6 := hX4.blk.cell (j := 6) (u := .bool e.o) rfl
      have f6 := hX4.blk.free 6
      have HX4 := Lib.hid hX4
      have HF4 := Lib.hid hF4
      have HC4 := Lib.hid hC4
      have HM4 := Lib.hid hM4
      clear hX4 hF4
      by_cases hk : m.k = 2
      · have t2 := eq_t hk
        have HI := Lib.hid (show isN e m = false by unfold isN; rw [decide_eq_false_iff_not]; omega)
        have HR := Lib.hid (show rcvS e m = ackS e m by unfold rcvS ackS; rw [if_pos HE.out, HI.out, decide_eq_false (by omega), Bool.or_false]; rfl)
        clear hk
        go_wp2
        go_ret3
        unfold RrcA rcvD
        rw [HI.out, HR.out, HE.out]
        exact ⟨_, rfl, own_nil _ _ _ _, ⟨_, _, _, _, HX4.out⟩, HF4.out⟩
      · have hk1 : m.k = 1 := by have := HK.out; omega
        have t2 := eq_f hk
        have hsq1 : 1 ≤ m.sq := H5.out hk1
        have hsq2 : m.sq ≤ 9223372036854775807 := by
          obtain ⟨_, _, _, _, h5, _⟩ := hI64
          unfold I64 at h5; omega
        obtain ⟨sq, hsq⟩ : ∃ s : Int, m.sq - 1 = s := ⟨_, rfl⟩
        have Hsq := Lib.hid hsq
        have hws : IntKind.i64.wrap (m.sq - 1) = sq := by rw [IntKind.wrap_i64]; omega
        obtain ⟨k1, hk1c⟩ : ∃ k1 : Nat, e.c + 1 = k1 := ⟨_, rfl⟩
        have hwc : IntKind.i64.wrap ((e.c : Int) + 1) = (k1 : Int) := by rw [IntKind.wrap_i64]; omega
        have Hk1 := Lib.hid hk1c
        have hY := HX4.out.setO true
        have g4 : (w4.setCell ⟨r, 6, none⟩ (.bool true)).cell? ⟨w.heap.size, 4, none⟩ = some (.int .i64 m.sq) := (hC4.grown (grown_setCell w4 ⟨r, 6, none⟩ _) (fun q => by injection q with q; exact hne q)).cell rfl
        have g5 : (w4.setCell ⟨r, 6, none⟩ (.bool true)).cell? ⟨r, 5, none⟩ = some (.int .i64 (e.c : Int)) := hY.blk.cell rfl
        have HY := Lib.hid hY
        have HCY := Lib.hid (hC4.grown (grown_setCell w4 ⟨r, 6, none⟩ (.bool true)) (fun q => by injection q with q; exact hne q))
        have HMY := Lib.hid (hM4.set hXb 6 (.bool true))
        have HFY := Lib.hid (fu_set1 HF4.out 6 (.bool true))
        clear hY hC4 hM4 hk hsq hk1c
        by_cases hn : sq = (e.c : Int)
        · have HI := Lib.hid (show isN e m = true by unfold isN; rw [decide_eq_true_eq]; exact ⟨HE.out, hk1, Hsq.out.trans hn⟩)
          have HR := Lib.hid (show rcvS e m = { ackS e m with o := true, c := k1 } by unfold rcvS ackS; rw [if_pos HE.out, HI.out, decide_eq_true hk1, Bool.or_true, ← Hk1.out]; rfl)
          have t3 := ne_f hn
          clear hn hk1
          obtain ⟨i1, hi1, hy0, hy1, hy2⟩ := info_parts info_u8
          have Hy := Lib.hid hy2
          clear hy2
          go_wp2_with fail
          go_quiet (fail)
          generalize hw8 : (w4.setCell ⟨r, 6, none⟩ (.bool true)).drewN nq = w8
          have hX8 : RxX w8 r U { ackS e m with o := true } A q cc L := by rw [← hw8]; exact HY.out.drewN nq
          have hC8 : Blk w8 w.heap.size 36 (ma m (.slice X n c)) := by rw [← hw8]; exact HCY.out
          have hM8 : Mdt w8 m X n c := by rw [← hw8]; exact mdt_drewN HMY.out nq
          have hF8 : Fu (fun k => k = r) w w8 := by rw [← hw8]; exact HFY.out.drewN nq
          clear d2 c6 f6 g4 g5 hw8 HX4 HF4 HC4 HM4 HY HCY HMY HFY
          have c5 : w8.cell? ⟨r, 5, none⟩ = some (.int .i64 (e.c : Int)) := hX8.blk.cell (j := 5) rfl
          have f5 := hX8.blk.free 5
          have hX9 := hX8.setC k1
          have hC9 := hC8.grown (grown_setCell w8 ⟨r, 5, none⟩ (.int .i64 (k1 : Int))) (fun q => by injection q with q; exact hne q)
          have hM9 := hM8.set hXb 5 (.int .i64 (k1 : Int))
          have hF9 := fu_set1 hF8 5 (.int .i64 (k1 : Int))
          obtain ⟨_, _, _, _, _, _, j6⟩ := ma_blk hC9
          have hXz : X = none → n = 0 := fun h => (hM9.nil h).1
          have hb9 := hM9.bs
          have hfar := hM9.far
          have HX9 := Lib.hid hX9
          have HF9 := Lib.hid hF9
          have Hml := Lib.hid hM9.len
          clear hX8 hC8 hM8 hF8 hX9 hC9 hM9 hF9
          go_wp2_with (first
            | (at_builtin
               refine wpList_app _ rfl (.const (.slice none 0 0)) (.tmp 46) _ rfl (w8.setCell ⟨r, 5, none⟩ (.int .i64 (k1 : Int))).heap.size 5 i1 _ 1 1 Try.underlying34 hi1 hy0 hy1 Hy.out rfl (by omega) (.slice none 0 0) 0 [] rfl (own_nil _ _ _ _) X n c (bvs m.d) rfl hXz hb9 (bvs_one _) (by unfold maxLen; omega) (by omega) (Nat.le_refl _) ?_
               intro vB wB hownB hgB hatB)
            | fail)
          go_ret3
          simp only [Nat.zero_add, List.nil_append] at hownB
          have hbB : Below (w8.setCell ⟨r, 5, none⟩ (.int .i64 (k1 : Int))).heap.size (w8.setCell ⟨r, 5, none⟩ (.int .i64 (k1 : Int))) wB := grown_below hgB (Nat.le_refl _) (fun k e => by cases e)
          unfold RrcA rcvD
          rw [HI.out, HR.out, HE.out, if_pos rfl]
          exact ⟨_, rfl, by rw [← Hml.out]; exact hownB.mono HF9.out.size, ⟨_, _, _, _, HX9.out.keep hbB⟩, HF9.out.then (Fu.ofBelow (S := fun _ => False) hbB) (fun j q => q.elim)⟩
        · have HI := Lib.hid (show isN e m = false by unfold isN; rw [decide_eq_false_iff_not, Hsq.out]; exact fun q => hn q.2.2)
          have HR := Lib.hid (show rcvS e m = { ackS e m with o := true } by unfold rcvS ackS; rw [if_pos HE.out, HI.out, decide_eq_true hk1, Bool.or_true]; rfl)
          have t3 := ne_t hn
          clear hn hk1
          go_wp2_with fail
          go_quiet (fail)
          go_wp2
          go_ret3
          unfold RrcA rcvD
          rw [HI.out, HR.out, HE.out]
          exact ⟨_, rfl, own_nil _ _ _ _, ⟨_, _, _, _, HY.out.drewN _⟩, HFY.out.drewN _⟩)
  · obtain ⟨q1, q2, q3⟩ := rcv_no he
    have Q1 := Lib.hid q1
    have Q2 := Lib.hid q2
    have Q3 := Lib.hid q3
    have t1 := eq_f he
    have t1n := ne_t he
    clear q1 q2 q3
    obtain ⟨y, hy⟩ : ∃ y, wrnE e m = y := ⟨_, rfl⟩
    have Hy := Lib.hid hy
    rw [hy] at hR t1 t1n he
    clear hy
    go_enter Try.func18, Try.ntmps18
    go_wp2_with fail
    refine hR.mono ?_
    rintro z w2 ⟨rfl, hb2⟩
    go_wp2
    go_ret3
    unfold RrcA
    rw [Q1.out, Q2.out, Q3.out, Hy.out]
    have hB := below_step hb1 hb2 (by omega)
    exact ⟨_, rfl, own_nil _ _ _ _, H0.out.keep hB, Fu.ofBelow hB⟩
end
end Ses
end Go.Proofs.Ytlmaelbalmjlbaa
