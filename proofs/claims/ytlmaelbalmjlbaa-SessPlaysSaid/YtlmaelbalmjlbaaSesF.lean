/- Layer 16: Recv. -/
import Derived.Test.YtlmaelbalmjlbaaSesE
import Derived.Deep.DeepCutAuto
import Derived.Deep.CutBlock
set_option linter.all false
namespace Go.Proofs.Ytlmaelbalmjlbaa
open Go.RowKit
namespace Ses
open Net
/-- What Recv answers, and leaves. -/
def RcvA (b : Nat) (U : Nat → Prop) (e : En) (m : Ms) (w w' : World) (r : Ending) : Prop :=
  ∃ v, r = .returned (.tuple #[v, .bool (isN e m), .int .i64 (wrnE e m)]) ∧ w'.ownsRow w.heap.size 5 1 v (rcvD e m).length (bvs (rcvD e m)) ∧ Ed w' b (fun k => U k ∨ w.heap.size ≤ k) (rcvS e m) ∧ Fu (fun k => k = b) w w'
theorem rcv_no {e : En} {m : Ms} (h : ¬ wrnE e m = 0) : isN e m = false ∧ rcvD e m = [] ∧ rcvS e m = e := by
  have h1 : isN e m = false := by unfold isN; rw [decide_eq_false_iff_not]; exact fun q => h q.1
  refine ⟨h1, ?_, ?_⟩
  · unfold rcvD; rw [h1]; rfl
  · unfold rcvS; rw [if_neg h]
theorem wrn_in {e : En} {m : Ms} (h : wrnE e m = 0) : 0 ≤ m.ac ∧ m.ac ≤ (e.l.length : Int) ∧ (m.k = 1 ∨ m.k = 2) ∧ m.d.length ≤ 1200 ∧ (m.k = 1 → 1 ≤ m.sq) := by
  unfold wrnE at h
  split at h
  · cases h
  · split at h
    · cases h
    · split at h
      · cases h
      · split at h
        · cases h
        · split at h
          · cases h
          · omega
/-- The end behind what was acked. -/
def ackS (e : En) (m : Ms) : En := { e with a := max e.a m.ac.toNat }
/-- Behind what was acked: the end, the message's block, as they lie there. -/
structure RcvC (w wc : World) (b g : Nat) (U : Nat → Prop) (E : En) (m : Ms) (X : Option Addr) (n c : Nat) : Prop where
  ed : Ed wc b (fun k => U k ∨ w.heap.size ≤ k) E
  blk : Blk wc g 36 (ma m (.slice X n c))
  mdt : Mdt wc m X n c
  fu : Fu (fun k => k = b) w wc
theorem EdX.drewN {w : World} {b : Nat} {U : Nat → Prop} {e : En} {A : Option Addr} {n : Nat} {L : List Ld} (h : EdX w b U e A n L) (k : Nat) : EdX (w.drewN k) b U e A n L := h.fu (S := fun _ => False) ((Fu.refl _ _).drewN k) (fun _ _ e => e) (fun e => e)
theorem Ed.drewN {w : World} {b : Nat} {U : Nat → Prop} {e : En} (h : Ed w b U e) (k : Nat) : Ed (w.drewN k) b U e := by
  obtain ⟨A, n, L, h⟩ := h; exact ⟨A, n, L, h.drewN k⟩
theorem fu_set1 {a w : World} {b : Nat} (h : Fu (fun k => k = b) a w) (j : Nat) (u : Value) : Fu (fun k => k = b) a (w.setCell ⟨b, j, none⟩ u) := fu_set h b j u rfl
theorem _root_.Go.Proofs.Ytlmaelbalmjlbaa.Net.Mdt.set {w : World} {b : Nat} {m : Ms} {X : Option Addr} {n c : Nat} (h : Mdt w m X n c) (hX : ∀ a, X = some a → 0 < n → a.block ≠ b) (j : Nat) (u : Value) : Mdt (w.setCell ⟨b, j, none⟩ u) m X n c := by
  refine ⟨?_, h.nil, h.le, h.cap, h.far, h.fit⟩
  by_cases hn : n = 0
  · have hd : m.d = [] := List.eq_nil_of_length_eq_zero (by rw [← h.len]; exact hn)
    rw [hd, hn]
    exact Bs.nil
  · exact h.bs.grown (grown_setCell w ⟨b, j, none⟩ u) (fun a ea q => by injection q with q; exact hX a ea (by omega) q)
theorem EdX.setO {w : World} {b : Nat} {U : Nat → Prop} {e : En} {A : Option Addr} {n : Nat} {L : List Ld} (h : EdX w b U e A n L) (v : Bool) : EdX (w.setCell ⟨b, 7, none⟩ (.bool v)) b U { e with o := v } A n L :=
  ⟨h.blk.setCell 7 (.bool v), h.q.fu (S := fun k => k = b) (fu_set (Fu.refl _ _) b 7 _ rfl) (fun k hk q => h.out (q ▸ hk)), h.is, h.ack, h.few, h.out, h.ok⟩
theorem EdX.setC {w : World} {b : Nat} {U : Nat → Prop} {e : En} {A : Option Addr} {n : Nat} {L : List Ld} (h : EdX w b U e A n L) (k : Nat) : EdX (w.setCell ⟨b, 6, none⟩ (.int .i64 (k : Int))) b U { e with c := k } A n L :=
  ⟨h.blk.setCell 6 (.int .i64 (k : Int)), h.q.fu (S := fun k => k = b) (fu_set (Fu.refl _ _) b 6 _ rfl) (fun k hk q => h.out (q ▸ hk)), h.is, h.ack, h.few, h.out, h.ok⟩
theorem RcvC.set {w wc : World} {b g : Nat} {U : Nat → Prop} {E E' : En} {m : Ms} {X : Option Addr} {n c : Nat} (h : RcvC w wc b g U E m X n c) (hg : g ≠ b) (hX : ∀ a, X = some a → 0 < n → a.block ≠ b) (j : Nat) (u : Value) (he : Ed (wc.setCell ⟨b, j, none⟩ u) b (fun k => U k ∨ w.heap.size ≤ k) E') : RcvC w (wc.setCell ⟨b, j, none⟩ u) b g U E' m X n c :=
  ⟨he, h.blk.grown (grown_setCell wc ⟨b, j, none⟩ u) (fun q => by injection q with q; exact hg q), h.mdt.set hX j u, fu_set h.fu b j u rfl⟩
section
variable (w : World)
set_option maxRecDepth 100000 in
set_option maxHeartbeats 8000000 in
theorem recv_ (b : Nat) (U : Nat → Prop) (e : En) (h : Ed w b U e) (hU : ∀ k, U k → k < w.heap.size) (hl : e.l.length ≤ 1000000000000000000) (hc : e.c ≤ 1000000000000000000) (m : Ms) (X : Option Addr) (n c : Nat) (hm : Mdt w m X n c) (hXb : ∀ a, X = some a → 0 < n → a.block ≠ b) :
    Calls Try.prog 17 #[.pointer (some ⟨b, 0, none⟩), .agg (ma m (.slice X n c))] w fun r w' => RcvA b U e m w w' r := by
  have hac := Blk.new w 36 (ma m (.slice X n c)) rfl
  obtain ⟨w1, hw1⟩ : ∃ w1, w.alloc (.cells (ma m (.slice X n c)) 36) = w1 := ⟨_, rfl⟩
  have hs1 : w1.heap.size = w.heap.size + 1 := by rw [← hw1]; simp
  have hb1 : Below w.heap.size w w1 := by rw [← hw1]; exact (Below.refl _ _).alloc (Nat.le_refl _) _
  rw [hw1] at hac
  have hm1 := hm.below hb1
  have h1 := h.keep hb1
  have hbl := h.lt
  have hR := refuse_ w1 b U e h1 hl m X n c hm1
  have H0 := Lib.hid h
  obtain ⟨d0, d1, d2, d3, d4, d5, d6⟩ := ma_blk hac
  clear h hm
  by_cases he : wrnE e m = 0
  · obtain ⟨i1, i2, i3, i4, i5⟩ := wrn_in he
    have HK := Lib.hid (show m.k = 1 ∨ m.k = 2 from i3)
    have H4 := Lib.hid i4
    have H5 := Lib.hid i5
    obtain ⟨ac, hac'⟩ := Int.eq_ofNat_of_zero_le i1
    have Hac := Lib.hid hac'
    rw [hac'] at i2
    have hal : ac ≤ e.l.length := by omega
    have HE := Lib.hid he
    rw [he] at hR
    clear he i1 i2 i3 i4 i5 hac'
    obtain ⟨A, q, L, hX⟩ := h1
    go_enter Try.func17, Try.ntmps17
    go_wp2_with fail
    refine hR.mono ?_
    rintro r w2 ⟨rfl, hb2⟩
    have hac2 := hac.keep hb2
    have hX2 := hX.fu (S := fun _ => False) (Fu.ofBelow hb2) (fun _ _ e => e) (fun e => e)
    have hm2 := hm1.below hb2
    have hB2 := below_step hb1 hb2 (by omega)
    have hs2 := hb2.size
    have hgl : w.heap.size < w2.heap.size := by omega
    have hne : ¬ w.heap.size = b := by omega
    have hne2 : ¬ b = w.heap.size := by omega
    clear d0 d1 d2 d3 d4 d5 d6 hac hX hm1 hb1 hb2 hR
    obtain ⟨_, _, d2, _, _, d5, _⟩ := ma_blk hac2
    rw [Hac.out] at d5
    obtain ⟨_, _, _, _, c4, c5, _, _⟩ := ea_cells hX2.blk
    obtain ⟨g, hg⟩ : ∃ g, w.heap.size = g := ⟨_, rfl⟩
    have Hg := Lib.hid hg
    have hq8 := hX2.n8
    have hack := hX2.ack
    obtain ⟨a0, ha0⟩ : ∃ a0, e.a = a0 := ⟨_, rfl⟩
    have Ha := Lib.hid ha0
    rw [ha0] at c4 hack
    have HX2 := Lib.hid hX2
    have hbk2 := hX2.blk
    clear hX2 ha0 hg
    go_wp2_with fail
    go_quiet (fail)
    go_upto_if 20 with fail
    go_cut [7] (fun v wc => v = .int .i64 0 ∧ RcvC w wc b w.heap.size U (ackS e m) m X n c)
    case first =>
      by_cases hA : a0 < ac
      · have hAi : (a0 : Int) < (ac : Int) := by omega
        have hwk : IntKind.i64.wrap ((ac : Int) - (a0 : Int)) = ((ac - a0 : Nat) : Int) := by rw [IntKind.wrap_i64]; omega
        have hkq : ac - a0 ≤ q := by have := HX2.out.len; have := Ha.out; omega
        go_wp2_with fail
        generalize hw5 : w2.drewN nq = w5
        have hX5 : EdX w5 b U e A q L := by rw [← hw5]; exact HX2.out.drewN nq
        have hac5 : Blk w5 w.heap.size 36 (ma m (.slice X n c)) := by rw [← hw5]; exact hac2
        have hm5 : Mdt w5 m X n c := by rw [← hw5]; exact mdt_drewN hm2 nq
        have hB5 : Below w.heap.size w w5 := by rw [← hw5]; exact below_drewN hB2 nq
        have hbk5 := hX5.blk
        have HX5 := Lib.hid hX5
        have hs5 : w.heap.size < w5.heap.size := by rw [← hw5]; exact hgl
        clear d2 d5 c4 c5 hac2 hm2 hB2 hbk2 hw5
        obtain ⟨_, _, d2, _, _, d5, _⟩ := ma_blk hac5
        rw [Hac.out] at d5
        obtain ⟨_, _, _, _, c4, c5, _, _⟩ := ea_cells hbk5
        rw [Ha.out] at c4
        go_region_law (first
          | (go_simp
             go_at_call 37
             refine (rest_ w5.drew U A q L (HX5.out.q.fu (S := fun _ => False) ((Fu.refl _ _).drew) (fun _ _ e => e)) hq8 (ac - a0) hkq).mono ?_
             rintro r w3 ⟨A3, rfl, hq3, hb3⟩
             have hb3' : Below w5.heap.size w5 w3 := ⟨hb3.os, hb3.tape, hb3.output, hb3.size, hb3.block⟩
             have hk3 := hbk5.keep hb3'
             have k5 := hk3.cell (j := 5) (u := .slice A q q) rfl
             have f5 := hk3.free 5
             have hs3 : w5.heap.size ≤ w3.heap.size := hb3'.size))
        all_goals (
          have hac3 := hac5.keep hb3'
          have hac4 : Blk (w3.setCell ⟨b, 5, none⟩ (.slice A3 (q - (ac - a0)) (q - (ac - a0)))) w.heap.size 36 (ma m (.slice X n c)) := hac3.grown (grown_setCell w3 ⟨b, 5, none⟩ _) (fun q => by injection q with q; exact hne q)
          have hk4 : Blk (w3.setCell ⟨b, 5, none⟩ (.slice A3 (q - (ac - a0)) (q - (ac - a0)))) b 75 #[.bool true, .int .i64 e.n, .int .i64 e.p, .int .i64 e.ep, .int .i64 (e.a : Int), .slice A3 (q - (ac - a0)) (q - (ac - a0)), .int .i64 (e.c : Int), .bool e.o] := hk3.setCell 5 _
          have hk5 : Blk ((w3.setCell ⟨b, 5, none⟩ (.slice A3 (q - (ac - a0)) (q - (ac - a0)))).setCell ⟨b, 4, none⟩ (.int .i64 (ac : Int))) b 75 #[.bool true, .int .i64 e.n, .int .i64 e.p, .int .i64 e.ep, .int .i64 (ac : Int), .slice A3 (q - (ac - a0)) (q - (ac - a0)), .int .i64 (e.c : Int), .bool e.o] := hk4.setCell 4 _
          have hf5 : Fu (fun k => k = b) w ((w3.setCell ⟨b, 5, none⟩ (.slice A3 (q - (ac - a0)) (q - (ac - a0)))).setCell ⟨b, 4, none⟩ (.int .i64 (ac : Int))) := fu_set1 (fu_set1 (Fu.ofBelow (below_step hB5 hb3' (by omega))) 5 _) 4 _
          have hf3 : Fu (fun k => k = b) w3 ((w3.setCell ⟨b, 5, none⟩ (.slice A3 (q - (ac - a0)) (q - (ac - a0)))).setCell ⟨b, 4, none⟩ (.int .i64 (ac : Int))) := fu_set1 (fu_set1 (Fu.refl _ _) 5 _) 4 _
          have hm3 := hm5.below hb3'
          obtain ⟨_, _, _, _, _, e5, _⟩ := ma_blk hac4
          rw [Hac.out] at e5
          have f4 := hk4.free 4
          have e4 := hk4.cell (j := 4) (u := .int .i64 (e.a : Int)) rfl
          clear d2 d5 c4 c5 k5 f5
          go_wp2_with fail
          go_meet
          refine ⟨rfl, ?_, hac4.grown (grown_setCell _ ⟨b, 4, none⟩ _) (fun q => by injection q with q; exact hne q), (hm3.set hXb 5 _).set hXb 4 _, hf5⟩
          have hmax : (ackS e m).a = ac := by
            show max e.a m.ac.toNat = ac
            rw [Hac.out, Ha.out]
            have : ((ac : Int)).toNat = ac := rfl
            omega
          refine ⟨A3, q - (ac - a0), L.drop (ac - a0), ?_, ?_, ?_, ?_, ?_, ?_, ?_⟩
          · unfold ea; rw [hmax]; exact hk5
          · refine (hq3.sub (U' := fun k => U k ∨ w.heap.size ≤ k) (fun k hk _ => hk.elim .inl (fun q => .inr (by have : w5.heap.size ≤ k := q; omega)))).fu hf3 (fun k hk q => ?_)
            subst q
            exact hk.elim HX5.out.out (by omega)
          · rw [List.map_drop, HX5.out.is, List.drop_drop, hmax, Ha.out]
            congr 1; omega
          · rw [hmax]; exact hal
          · rw [hmax]; have := HX5.out.few; have := Ha.out; show e.l.length ≤ ac + 8; omega
          · exact fun q => q.elim HX5.out.out (by omega)
          · exact HX5.out.ok)
      · have hAi : ¬ (a0 : Int) < (ac : Int) := by omega
        go_wp2_with fail
        go_meet
        have hS : ackS e m = e := by
          unfold ackS
          rw [show max e.a m.ac.toNat = e.a by rw [Hac.out, Ha.out]; have : ((ac : Int)).toNat = ac := rfl; omega]
        rw [hS]
        exact ⟨rfl, (show Ed (w2.drewN nq) b U e from ⟨A, q, L, HX2.out.drewN nq⟩).sub (fun k hk _ => .inl hk) (fun q => q.elim HX2.out.out (by omega)), hac2, mdt_drewN hm2 nq, (Fu.ofBelow hB2).drewN nq⟩
    case rest =>
      obtain ⟨rfl, hC⟩ := hcut
      clear d2 d5 c4 c5 hac2 hm2 hB2 hbk2 HX2
      have HC := Lib.hid hC
      obtain ⟨A2, q2, L2, hY⟩ := hC.ed
      have hgc := hC.blk
      obtain ⟨_, _, d2, _, d4, _, d6⟩ := ma_blk hgc
      obtain ⟨_, _, _, _, _, _, c6, c7⟩ := ea_cells hY.blk
      have f7 := hY.blk.free 7
      have HY := Lib.hid hY
      have hgb : w.heap.size ≠ b := hne
      clear hC hY
      by_cases hk : m.k = 2
      · have t2 := eq_t hk
        have HI := Lib.hid (show isN e m = false by unfold isN; rw [decide_eq_false_iff_not]; omega)
        have HR := Lib.hid (show rcvS e m = ackS e m by unfold rcvS ackS; rw [if_pos HE.out, HI.out, decide_eq_false (by omega), Bool.or_false]; rfl)
        clear hk
        go_wp2
        go_ret3
        unfold RcvA rcvD
        rw [HI.out, HR.out, HE.out]
        exact ⟨_, rfl, own_nil _ _ _ _, HC.out.ed, HC.out.fu⟩
      · have hk1 : m.k = 1 := by have := HK.out; omega
        have t2 := eq_f hk
        have hC7 := HC.out.set hgb hXb 7 (.bool true) ⟨A2, q2, L2, HY.out.setO true⟩
        have hY7 := HY.out.setO true
        have hc6 : (wc.setCell ⟨b, 7, none⟩ (.bool true)).cell? ⟨b, 6, none⟩ = some (.int .i64 (e.c : Int)) := hY7.blk.cell (j := 6) rfl
        have f6 := hY7.blk.free 6
        obtain ⟨_, _, _, _, g4, _, g6⟩ := ma_blk hC7.blk
        have hwc : IntKind.i64.wrap ((e.c : Int) + 1) = ((e.c + 1 : Nat) : Int) := by rw [IntKind.wrap_i64]; omega
        have HC7 := Lib.hid hC7
        have HY7 := Lib.hid hY7
        clear hC7 hY7 hk
        by_cases hn : m.sq = ((e.c + 1 : Nat) : Int)
        · have HI := Lib.hid (show isN e m = true by unfold isN; rw [decide_eq_true_eq]; exact ⟨HE.out, hk1, by omega⟩)
          have HR := Lib.hid (show rcvS e m = { ackS e m with o := true, c := e.c + 1 } by unfold rcvS ackS; rw [if_pos HE.out, HI.out, decide_eq_true hk1, Bool.or_true]; rfl)
          have Hn := Lib.hid hn
          rw [hn] at d4 g4
          clear hn hk1
          go_wp2_with fail
          go_quiet (fail)
          generalize hw8 : (wc.setCell ⟨b, 7, none⟩ (.bool true)).drewN nq = w8
          have hY8 : EdX w8 b (fun k => U k ∨ w.heap.size ≤ k) { ackS e m with o := true } A2 q2 L2 := by rw [← hw8]; exact HY7.out.drewN nq
          have hC8 : RcvC w w8 b w.heap.size U { ackS e m with o := true } m X n c := by rw [← hw8]; exact ⟨⟨A2, q2, L2, HY7.out.drewN nq⟩, HC7.out.blk, mdt_drewN HC7.out.mdt nq, HC7.out.fu.drewN nq⟩
          clear d2 d4 d6 c6 c7 f7 hc6 f6 g4 g6 hw8
          have c6 : w8.cell? ⟨b, 6, none⟩ = some (.int .i64 (e.c : Int)) := hY8.blk.cell (j := 6) rfl
          have f6 := hY8.blk.free 6
          obtain ⟨_, _, _, _, g4, _, g6⟩ := ma_blk hC8.blk
          rw [Hn.out] at g4
          have hY9 := hY8.setC (e.c + 1)
          have hC9 := hC8.set hgb hXb 6 (.int .i64 ((e.c + 1 : Nat) : Int)) ⟨A2, q2, L2, hY9⟩
          obtain ⟨_, _, _, _, _, _, j6⟩ := ma_blk hC9.blk
          have HY9 := Lib.hid hY9
          have HC9 := Lib.hid hC9
          clear hY8 hC8 hY9 hC9
          go_wp2_with fail
          rw [show (e.c : Int) + 1 = ((e.c + 1 : Nat) : Int) from by omega]
          refine (clone_ X n c m.d _ HC9.out.mdt.bs HC9.out.mdt.nil HC9.out.mdt.le HC9.out.mdt.cap HC9.out.mdt.far).mono ?_
          rintro r wd ⟨v, rfl, hown, hbd⟩
          have hEd := (show Ed _ b _ _ from ⟨A2, q2, L2, HY9.out⟩).keep hbd
          have hFd := HC9.out.fu.then (Fu.ofBelow (S := fun _ => False) hbd) (fun j q => q.elim)
          have hsz := HC9.out.fu.size
          have Hml := Lib.hid HC9.out.mdt.len
          clear c6 f6 g4 g6 j6
          go_wp2
          go_ret3
          unfold RcvA rcvD
          rw [HI.out, HR.out, HE.out, if_pos rfl]
          exact ⟨_, rfl, by rw [← Hml.out]; exact hown.mono hsz, hEd, hFd⟩
        · have HI := Lib.hid (show isN e m = false by unfold isN; rw [decide_eq_false_iff_not]; omega)
          have HR := Lib.hid (show rcvS e m = { ackS e m with o := true } by unfold rcvS ackS; rw [if_pos HE.out, HI.out, decide_eq_true hk1, Bool.or_true]; rfl)
          have t3 := ne_t hn
          have t4 : (m.sq != (e.c : Int) + 1) = true := ne_t (by omega)
          clear hn hk1
          go_wp2_with fail
          go_quiet (fail)
          go_wp2
          go_ret3
          unfold RcvA rcvD
          rw [HI.out, HR.out, HE.out]
          exact ⟨_, rfl, own_nil _ _ _ _, ⟨A2, q2, L2, HY7.out.drewN nq⟩, HC7.out.fu.drewN _⟩
  · obtain ⟨q1, q2, q3⟩ := rcv_no he
    have Q1 := Lib.hid q1
    have Q2 := Lib.hid q2
    have Q3 := Lib.hid q3
    have t1 := eq_f he
    have t1n := ne_t he
    clear q1 q2 q3
    obtain ⟨z, hz⟩ : ∃ z, wrnE e m = z := ⟨_, rfl⟩
    have Hz := Lib.hid hz
    rw [hz] at hR t1 t1n he
    clear hz
    go_enter Try.func17, Try.ntmps17
    go_wp2_with fail
    refine hR.mono ?_
    rintro r w2 ⟨rfl, hb2⟩
    go_wp2
    go_ret3
    unfold RcvA
    rw [Q1.out, Q2.out, Q3.out, Hz.out]
    have hB := below_step hb1 hb2 (by omega)
    exact ⟨_, rfl, own_nil _ _ _ _, (H0.out.keep hB).sub (fun k hk _ => .inl hk) (fun q => q.elim (by obtain ⟨A, q, L, hX⟩ := H0.out; exact hX.out) (by omega)), Fu.ofBelow hB⟩
end
end Ses
end Go.Proofs.Ytlmaelbalmjlbaa
