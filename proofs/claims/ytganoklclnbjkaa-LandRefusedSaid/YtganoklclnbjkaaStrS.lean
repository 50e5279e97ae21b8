/- Layer 10: Check. -/
import Derived.Test.YtganoklclnbjkaaStrQ
import Derived.Test.YtganoklclnbjkaaStrO
set_option linter.all false
namespace Go.Proofs.Ytganoklclnbjkaa
open Go.RowKit
namespace Str
open Blo (I64)
def r0 : Rec := ⟨0, 0, 0, 0, 0, 0, 0, []⟩
def midL (l : List Rec) : List Rec := (l.drop 1).take (l.length - 2)
/-- Check's answer. -/
def chkE (l : List Rec) : Int :=
  if l.all mayB = true then
    if ordB l = true then
      if 1024 < (l.getD 0 r0).len then 6
      else if risA (l.getD 0 r0).len 0 (midL l) = true then
        if (l.getD (l.length - 1) r0).len = ((midL l).length : Int) then 0 else 3
      else 5
    else 14
  else 1
theorem ord_two {l : List Rec} (h : ordB l = true) : 2 ≤ l.length := by
  unfold ordB at h
  rw [Bool.and_eq_true, decide_eq_true_eq] at h
  match l, h with
  | [], h => simp at h
  | [r], h =>
    have h1 := h.1
    simp only [List.length_singleton, ordA, Bool.and_eq_true, beq_iff_eq] at h1
    have a := h1.1
    have b := h1.2.1
    simp at a b
    omega
  | _ :: _ :: _, _ => simp
theorem Rcl.cut {w : World} {b o n : Nat} {l : List Rec} (h : Rcl w (some ⟨b, o, none⟩) n l) (k m : Nat) (hm : m ≤ n) (hk : k ≤ m) : Rcl w (some ⟨b, o + k * 8, none⟩) (m - k) ((l.take m).drop k) := by
  have hl := h.len
  refine ⟨by rw [List.length_drop, List.length_take]; omega, fun j hj => ?_⟩
  rw [List.length_drop, List.length_take] at hj
  obtain ⟨b', o', X, p, c, e, hc, hd⟩ := h.each (k + j) (by omega)
  injection e with e
  injection e with e1 e2
  subst e1 e2
  have ex : ((l.take m).drop k)[j]'(by rw [List.length_drop, List.length_take]; omega) = l[k + j]'(by omega) := by simp
  rw [ex]
  refine ⟨b, o + k * 8, X, p, c, rfl, fun i u hu => ?_, hd⟩
  have := hc i u hu
  rw [show o + k * 8 + j * 8 + i = o + (k + j) * 8 + i by omega]
  exact this
theorem wp_alloc_blk {P : Program} {o : Oper} {a : Act} {w : World} {K : Act → World → Prop} {Q : Exit → Act → World → Prop} (t : TypeId) (hop : o.op = Op.alloc t) (i : TypeInfo) (z : Value) (h2 : P.info? t = some i) (h3 : i.zero = some z)
    (hK : ∀ w', Blk w' w.heap.size t z.cells → Below w.heap.size w w' → w'.heap.size = w.heap.size + 1 → K (a.put o.dst (.pointer (some ⟨w.heap.size, 0, none⟩))) w') : o.wp P a w K Q := by
  unfold Oper.wp
  simp [execOp, hop, Instr.alloc, zeroValue, typeInfo, h2, h3, newVar, newRow, Result.andThen]
  exact hK _ (Blk.new w _ _ rfl) ((Below.refl _ _).alloc (Nat.le_refl _) _) (by simp)
theorem k8o_tn {w w' : World} {b o g : Nat} {r : Rec} {d : Value} (h : K8o w b o r d) (hT : Tn g (g + 1) w w') (hne : b < g) : K8o w' b o r d := by
  obtain ⟨h0, h1, h2, h3, h4, h5, h6, h7⟩ := h
  have t : ∀ {k : Nat} {u : Value}, w.cell? ⟨b, k, none⟩ = some u → w'.cell? ⟨b, k, none⟩ = some u := fun hc => hT.cell hc (.inl hne)
  exact ⟨t h0, t h1, t h2, t h3, t h4, t h5, t h6, t h7⟩
section
variable (w : World)
set_option maxRecDepth 100000 in
set_option maxHeartbeats 4000000 in
theorem check_ (A : Option Addr) (n c : Nat) (l : List Rec) (h : Rcl w A n l) (hnc : n ≤ c) (hc : c ≤ 9223372036854775807) : Calls Try.prog 49 #[.slice A n c] w fun e w' => e = .returned (.int .i64 (chkE l)) ∧ Below w.heap.size w w' := by
  have hl := h.len
  have Hl := Lib.hid hl
  have hn : n ≤ 9223372036854775807 := by omega
  cases hm : l.all mayB with
  | false =>
    have HC := Lib.hid (show chkE l = 1 by unfold chkE; rw [hm]; rfl)
    clear hl
    go_enter Try.func49, Try.ntmps49
    go_wp2_with fail
    refine (may_ _ A n c l h hn).mono ?_
    rw [hm]
    rintro e w1 ⟨rfl, hb1⟩
    clear hm
    go_wp2
    go_ret
    rw [HC.out]
    exact ⟨rfl, hb1⟩
  | true =>
    cases ho : ordB l with
    | false =>
      have HC := Lib.hid (show chkE l = 14 by unfold chkE; rw [hm, if_pos rfl, ho]; rfl)
      clear hl
      go_enter Try.func49, Try.ntmps49
      go_wp2_with fail
      refine (may_ _ A n c l h hn).mono ?_
      rw [hm]
      rintro e w1 ⟨rfl, hb1⟩
      have h1 := h.below hb1
      clear hm h
      go_wp2_with fail
      refine (ordered_ _ A n c l h1 hn).mono ?_
      rw [ho]
      rintro e w2 ⟨rfl, hb2⟩
      clear ho
      go_wp2
      go_ret
      rw [HC.out]
      exact ⟨rfl, hb1.trans (hb2.mono hb1.size)⟩
    | true =>
      obtain ⟨q, rfl⟩ : ∃ q, n = q + 2 := ⟨n - 2, by have := ord_two ho; omega⟩
      obtain ⟨b, o, X0, m0, k0, x0, rfl, hx0, rc0, hd0⟩ := h.at_ (k := 0) (by omega)
      obtain ⟨b', o', Xq, mq, kq, xq, eA, hxq, rcq, hdq⟩ := h.at_ (k := q + 1) (by omega)
      injection eA with eA
      injection eA with e1 e2
      subst e1 e2
      have hcut := h.cut 1 (q + 1) (by omega) (by omega)
      have HC := Lib.hid (show chkE l = if 1024 < x0.len then 6 else if risA x0.len 0 ((l.take (q + 1)).drop 1) = true then if xq.len = (q : Int) then 0 else 3 else 5 by
        have e1 : l.getD 0 r0 = x0 := by simp [List.getD, hx0]
        have e2 : l.getD (l.length - 1) r0 = xq := by rw [← hl]; simp [List.getD, hxq]
        have e3 : midL l = (l.take (q + 1)).drop 1 := by
          unfold midL
          rw [List.drop_take, ← hl]
          rfl
        have e4 : (midL l).length = q := by rw [e3, List.length_drop, List.length_take]; omega
        unfold chkE
        rw [hm, if_pos rfl, ho, if_pos rfl, e1, e2, e4, e3])
      clear hl hx0 hxq
      go_enter Try.func49, Try.ntmps49
      go_wp2_with fail
      refine (may_ _ _ (q + 2) c l h hn).mono ?_
      rw [hm]
      rintro e w1 ⟨rfl, hb1⟩
      have h1 := h.below hb1
      have hs1 := hb1.size
      clear hm
      go_wp2_with fail
      refine (ordered_ _ _ (q + 2) c l h1 hn).mono ?_
      rw [ho]
      rintro e w2 ⟨rfl, hb2⟩
      have hB2 : Below w.heap.size w w2 := hb1.trans (hb2.mono hs1)
      clear ho h1
      have hcut2 := hcut.below hB2
      have hbw : b < w2.heap.size := cell_lt (k8o_below rc0.all hB2).1
      have hbw : b < w2.drew.heap.size := cell_lt (k8o_below rc0.all hB2).1
      have hbw : b < w2.drew.heap.size := cell_lt (k8o_below rc0.all hB2).1
      have hbw : b < w2.drew.heap.size := cell_lt (k8o_below rc0.all hB2).1
      have hbw : b < w2.drew.heap.size := cell_lt (k8o_below rc0.all hB2).1
      have g0 : K8o w2.drew b o x0 (.slice X0 m0 k0) := by
        have := k8o_below rc0.all hB2
        simpa only [Nat.zero_mul, Nat.add_zero] using k8o_drew this
      have gq : K8o w2.drew b (o + (q + 1) * 8) xq (.slice Xq mq kq) := k8o_drew (k8o_below rcq.all hB2)
      obtain ⟨i0, hi0, hz0, _, _⟩ := rec_info
      clear h rc0 rcq hb1 hb2 hcut
      have hq1 : (q : Int) + 2 - 1 = (q : Int) + 1 := by omega
      have hq2 : ((q : Int) + 1).toNat = q + 1 := by omega
      have t1 : (0 : Int) ≤ (q : Int) + 1 := by omega
      have t2 : (q : Int) + 1 < (q : Int) + 2 := by omega
      have t3 : (1 : Int) ≤ (q : Int) + 1 := by omega
      have t4 : (q : Int) + 1 ≤ (c : Int) := by omega
      have t5 : q + 1 ≤ c := by omega
      have t6 : ¬ c = 1 := by omega
      have t7 : 1 ≤ c := by omega
      have t8 : (0 : Int) < (q : Int) + 2 := by omega
      go_wp2_with fail
      refine wp_region_noPanic ?_
      refine wp_region_held_drew (S := (fun w' => K8o w' b o x0 (.slice X0 m0 k0) ∧ K8o w' b (o + (q + 1) * 8) xq (.slice Xq mq kq))) (by kernel_rfl) ⟨g0, gq⟩ (fun _ => ?_)
      refine wpAnyH_take (i := 0) (oi := _) (v := ?_) rfl (by kernel_rfl) (by kernel_rfl) (by kernel_rfl) (fun _ _ _ h => h) (Or.inl ⟨by kernel_rfl, ?_⟩) ⟨g0, gq⟩ ?_
      rotate_left
      · (rintro w ⟨⟨s0, s1, s2, s3, s4, s5, s6, s7⟩, ⟨u0, u1, u2, u3, u4, u5, u6, u7⟩⟩; go_simp; (first | done | rfl))
      try simp only [Act.put, List.getElem_toArray, List.getElem_cons_zero, List.getElem_cons_succ, List.setIfInBounds_toArray, List.set_cons_zero, List.set_cons_succ]
      refine wpAnyH_take (i := 1) (oi := _) (v := ?_) rfl (by kernel_rfl) (by kernel_rfl) (by kernel_rfl) (fun _ _ _ h => h) (Or.inl ⟨by kernel_rfl, ?_⟩) ⟨g0, gq⟩ ?_
      rotate_left
      · (rintro w ⟨⟨s0, s1, s2, s3, s4, s5, s6, s7⟩, ⟨u0, u1, u2, u3, u4, u5, u6, u7⟩⟩; go_simp; (first | done | rfl))
      try simp only [Act.put, List.getElem_toArray, List.getElem_cons_zero, List.getElem_cons_succ, List.setIfInBounds_toArray, List.set_cons_zero, List.set_cons_succ]
      refine wpAnyH_take (i := 2) (oi := _) (v := ?_) rfl (by kernel_rfl) (by kernel_rfl) (by kernel_rfl) (fun _ _ _ h => h) (Or.inl ⟨by kernel_rfl, ?_⟩) ⟨g0, gq⟩ ?_
      rotate_left
      · (rintro w ⟨⟨s0, s1, s2, s3, s4, s5, s6, s7⟩, ⟨u0, u1, u2, u3, u4, u5, u6, u7⟩⟩; go_simp; (first | done | rfl))
      try simp only [Act.put, List.getElem_toArray, List.getElem_cons_zero, List.getElem_cons_succ, List.setIfInBounds_toArray, List.set_cons_zero, List.set_cons_succ]
      refine wpAnyH_take (i := 3) (oi := _) (v := ?_) rfl (by kernel_rfl) (by kernel_rfl) (by kernel_rfl) (fun _ _ _ h => h) (Or.inl ⟨by kernel_rfl, ?_⟩) ⟨g0, gq⟩ ?_
      rotate_left
      · (rintro w ⟨⟨s0, s1, s2, s3, s4, s5, s6, s7⟩, ⟨u0, u1, u2, u3, u4, u5, u6, u7⟩⟩; go_simp; (first | done | rfl))
      try simp only [Act.put, List.getElem_toArray, List.getElem_cons_zero, List.getElem_cons_succ, List.setIfInBounds_toArray, List.set_cons_zero, List.set_cons_succ]
      refine wpAnyH_take (i := 4) (oi := _) (v := ?_) rfl (by kernel_rfl) (by kernel_rfl) (by kernel_rfl) (fun _ _ _ h => h) (Or.inl ⟨by kernel_rfl, ?_⟩) ⟨g0, gq⟩ ?_
      rotate_left
      · (rintro w ⟨⟨s0, s1, s2, s3, s4, s5, s6, s7⟩, ⟨u0, u1, u2, u3, u4, u5, u6, u7⟩⟩; go_simp; (first | done | rfl))
      try simp only [Act.put, List.getElem_toArray, List.getElem_cons_zero, List.getElem_cons_succ, List.setIfInBounds_toArray, List.set_cons_zero, List.set_cons_succ]
      refine wpAnyH_take (i := 5) (oi := _) (v := ?_) rfl (by kernel_rfl) (by kernel_rfl) (by kernel_rfl) (fun _ _ _ h => h) (Or.inl ⟨by kernel_rfl, ?_⟩) ⟨g0, gq⟩ ?_
      rotate_left
      · (rintro w ⟨⟨s0, s1, s2, s3, s4, s5, s6, s7⟩, ⟨u0, u1, u2, u3, u4, u5, u6, u7⟩⟩; go_simp; (first | done | rfl))
      try simp only [Act.put, List.getElem_toArray, List.getElem_cons_zero, List.getElem_cons_succ, List.setIfInBounds_toArray, List.set_cons_zero, List.set_cons_succ]
      refine wpAnyH_take (i := 6) (oi := _) (v := ?_) rfl (by kernel_rfl) (by kernel_rfl) (by kernel_rfl) (fun _ _ _ h => h) (Or.inl ⟨by kernel_rfl, ?_⟩) ⟨g0, gq⟩ ?_
      rotate_left
      · (rintro w ⟨⟨s0, s1, s2, s3, s4, s5, s6, s7⟩, ⟨u0, u1, u2, u3, u4, u5, u6, u7⟩⟩; go_simp; (first | done | rfl))
      try simp only [Act.put, List.getElem_toArray, List.getElem_cons_zero, List.getElem_cons_succ, List.setIfInBounds_toArray, List.set_cons_zero, List.set_cons_succ]
      refine wpAnyH_take (i := 7) (oi := _) (v := ?_) rfl (by kernel_rfl) (by kernel_rfl) (by kernel_rfl) (fun _ _ _ h => h) (Or.inl ⟨by kernel_rfl, ?_⟩) ⟨g0, gq⟩ ?_
      rotate_left
      · (rintro w ⟨⟨s0, s1, s2, s3, s4, s5, s6, s7⟩, ⟨u0, u1, u2, u3, u4, u5, u6, u7⟩⟩; go_simp; (first | done | rfl))
      try simp only [Act.put, List.getElem_toArray, List.getElem_cons_zero, List.getElem_cons_succ, List.setIfInBounds_toArray, List.set_cons_zero, List.set_cons_succ]
      refine wpAnyH_take (i := 8) (oi := _) (v := ?_) rfl (by kernel_rfl) (by kernel_rfl) (by kernel_rfl) (fun _ _ _ h => h) (Or.inl ⟨by kernel_rfl, ?_⟩) ⟨g0, gq⟩ ?_
      rotate_left
      · (rintro w ⟨⟨s0, s1, s2, s3, s4, s5, s6, s7⟩, ⟨u0, u1, u2, u3, u4, u5, u6, u7⟩⟩; go_simp; (first | done | rfl))
      try simp only [Act.put, List.getElem_toArray, List.getElem_cons_zero, List.getElem_cons_succ, List.setIfInBounds_toArray, List.set_cons_zero, List.set_cons_succ]
      refine wpAnyH_take (i := 9) (oi := _) (v := ?_) rfl (by kernel_rfl) (by kernel_rfl) (by kernel_rfl) (fun _ _ _ h => h) (Or.inl ⟨by kernel_rfl, ?_⟩) ⟨g0, gq⟩ ?_
      rotate_left
      · (rintro w ⟨⟨s0, s1, s2, s3, s4, s5, s6, s7⟩, ⟨u0, u1, u2, u3, u4, u5, u6, u7⟩⟩; go_simp; (first | done | rfl))
      try simp only [Act.put, List.getElem_toArray, List.getElem_cons_zero, List.getElem_cons_succ, List.setIfInBounds_toArray, List.set_cons_zero, List.set_cons_succ]
      refine wpAnyH_ready (rs := [10, 11]) (by kernel_rfl) (by simp) (AllReadyH.cons (o := _) rfl (fun K hK => ?_) (AllReadyH.cons (o := _) rfl (fun K hK => ?_) AllReadyH.nil))
      · rw [if_pos (by kernel_rfl)]
        refine wp_alloc_blk 29 rfl i0 _ hi0 hz0 ?_
        intro w3 hk10 hb3 hs3
        have hB3 := hb3
        refine hK.out _ _ ⟨k8o_below g0 hB3, k8o_below gq hB3⟩ (fun _ => ?_)
        clear hK K
        try simp only [Act.put, List.getElem_toArray, List.getElem_cons_zero, List.getElem_cons_succ, List.setIfInBounds_toArray, List.set_cons_zero, List.set_cons_succ]
        refine wpAnyH_ready (rs := [11]) (by kernel_rfl) (by simp) (AllReadyH.cons (o := _) rfl (fun K hK => ?_) AllReadyH.nil)
        rw [if_pos (by kernel_rfl)]
        refine wp_alloc_blk 29 rfl i0 _ hi0 hz0 ?_
        intro w4 hk11 hb4 hs4
        have hB4 := below_step hB3 hb4 (Nat.le_refl _)
        have hk10 := hk10.keep hb4
        refine hK.out _ _ ⟨k8o_below g0 hB4, k8o_below gq hB4⟩ (fun _ => ?_)
        clear hK K
        try simp only [Act.put, List.getElem_toArray, List.getElem_cons_zero, List.getElem_cons_succ, List.setIfInBounds_toArray, List.set_cons_zero, List.set_cons_succ]
        refine wpAnyH_ready (rs := [12]) (by kernel_rfl) (by simp) (AllReadyH.cons (o := _) rfl (fun K hK => ?_) AllReadyH.nil)
        rw [if_pos (by kernel_rfl)]
        refine wp_store_blk 29 _ _ rfl (w2.drew.heap.size) 29 _ (ra x0 (.slice X0 m0 k0)) hk10 rfl rfl rfl size_rec (one_rec _ _ _ _) ?_
        intro w5 hk10 hT5
        have hk11 := hT5.blk hk11 (by omega)
        have g5 : (fun w' => K8o w' b o x0 (.slice X0 m0 k0) ∧ K8o w' b (o + (q + 1) * 8) xq (.slice Xq mq kq)) w5 := ⟨k8o_tn (k8o_below g0 hB4) hT5 (by omega), k8o_tn (k8o_below gq hB4) hT5 (by omega)⟩
        refine hK.out _ _ g5 (fun _ => ?_)
        clear hK K
        try simp only [Act.put, List.getElem_toArray, List.getElem_cons_zero, List.getElem_cons_succ, List.setIfInBounds_toArray, List.set_cons_zero, List.set_cons_succ]
        refine wpAnyH_take (i := 13) (oi := _) (v := ?_) rfl (by kernel_rfl) (by kernel_rfl) (by kernel_rfl) (fun _ _ _ h => h) (Or.inl ⟨by kernel_rfl, ?_⟩) g5 ?_
        rotate_left
        · (rintro w ⟨⟨s0, s1, s2, s3, s4, s5, s6, s7⟩, ⟨u0, u1, u2, u3, u4, u5, u6, u7⟩⟩; go_simp; (first | done | rfl))
        try simp only [Act.put, List.getElem_toArray, List.getElem_cons_zero, List.getElem_cons_succ, List.setIfInBounds_toArray, List.set_cons_zero, List.set_cons_succ]
        refine wpAnyH_ready (rs := [14]) (by kernel_rfl) (by simp) (AllReadyH.cons (o := _) rfl (fun K hK => ?_) AllReadyH.nil)
        rw [if_pos (by kernel_rfl)]
        refine wp_store_blk 29 _ _ rfl (w3.heap.size) 29 _ (ra xq (.slice Xq mq kq)) hk11 rfl rfl rfl size_rec (one_rec _ _ _ _) ?_
        intro w6 hk11 hT6
        have hk10 := hT6.blk hk10 (by omega)
        have g6 : (fun w' => K8o w' b o x0 (.slice X0 m0 k0) ∧ K8o w' b (o + (q + 1) * 8) xq (.slice Xq mq kq)) w6 := ⟨k8o_tn g5.1 hT6 (by omega), k8o_tn g5.2 hT6 (by omega)⟩
        refine hK.out _ _ g6 (fun _ => ?_)
        clear hK K
        try simp only [Act.put, List.getElem_toArray, List.getElem_cons_zero, List.getElem_cons_succ, List.setIfInBounds_toArray, List.set_cons_zero, List.set_cons_succ]
        refine wpAnyH_done (by kernel_rfl) ?_ _
        refine NoPanic.normal ?_
        have hB6 : Below w2.drew.heap.size w2.drew w6 := (hB4.trans (hT5.below (by omega) (by omega))).trans (hT6.below (by omega) (Nat.le_trans (by omega) hT5.size))
        have hW6 : Below w.heap.size w w6 := hB2.trans ((Blo.below_undrew hB6).mono hB2.size)
        have hcut6 := hcut2.below (Blo.below_undrew hB6)
        simp only [Nat.one_mul, Nat.add_sub_cancel] at hcut6
        have y6 : w6.cell? ⟨w2.heap.size, 6, none⟩ = some (.int .i64 x0.len) := (k8 hk10).2.2.2.2.2.2.1
        have v6 : w6.cell? ⟨w3.heap.size, 6, none⟩ = some (.int .i64 xq.len) := (k8 hk11).2.2.2.2.2.2.1
        have hf6 := hd0.fit.len
        clear hs3 hs4 hB6 hT5 hT6 hB4 hB3 hb3 hb4 g5 g6 g0 gq hcut2 hd0 hdq hk10
        by_cases hbig : 1024 < x0.len
        · have HQ := Lib.hid (show chkE l = 6 by rw [HC.out, if_pos hbig])
          go_wp2
          go_ret
          rw [HQ.out]
          exact ⟨rfl, hW6⟩
        · go_wp2_with fail
          refine (rising_ _ x0.len (some ⟨b, o + 8, none⟩) q (c - 1) ((l.take (q + 1)).drop 1) hf6 hcut6 (by omega)).mono ?_
          cases hri : risA x0.len 0 ((l.take (q + 1)).drop 1) with
          | false =>
            have HQ := Lib.hid (show chkE l = 5 by rw [HC.out, if_neg (by omega), hri]; rfl)
            rintro e w7 ⟨rfl, hb7⟩
            clear hri
            go_wp2
            go_ret
            rw [HQ.out]
            exact ⟨rfl, hW6.trans (hb7.mono hW6.size)⟩
          | true =>
            rintro e w7 ⟨rfl, hb7⟩
            have v7 : w7.cell? ⟨w3.heap.size, 6, none⟩ = some (.int .i64 xq.len) := (k8 (hk11.keep hb7)).2.2.2.2.2.2.1
            by_cases hql : xq.len = (q : Int)
            · have HQ := Lib.hid (show chkE l = 0 by rw [HC.out, if_neg (by omega), hri, if_pos rfl, if_pos hql])
              have hql2 : (xq.len == (q : Int)) = true := by simp [hql]
              have hql3 : (xq.len != (q : Int)) = false := by simp [hql]
              clear hri hql
              go_wp2
              go_ret
              rw [HQ.out]
              exact ⟨rfl, hW6.trans (hb7.mono hW6.size)⟩
            · have HQ := Lib.hid (show chkE l = 3 by rw [HC.out, if_neg (by omega), hri, if_pos rfl, if_neg hql])
              clear hri
              go_wp2
              go_ret
              rw [HQ.out]
              exact ⟨rfl, hW6.trans (hb7.mono hW6.size)⟩
      · rw [if_pos (by kernel_rfl)]
        refine wp_alloc_blk 29 rfl i0 _ hi0 hz0 ?_
        intro w3 hk11 hb3 hs3
        have hB3 := hb3
        refine hK.out _ _ ⟨k8o_below g0 hB3, k8o_below gq hB3⟩ (fun _ => ?_)
        clear hK K
        try simp only [Act.put, List.getElem_toArray, List.getElem_cons_zero, List.getElem_cons_succ, List.setIfInBounds_toArray, List.set_cons_zero, List.set_cons_succ]
        refine wpAnyH_ready (rs := [10]) (by kernel_rfl) (by simp) (AllReadyH.cons (o := _) rfl (fun K hK => ?_) AllReadyH.nil)
        rw [if_pos (by kernel_rfl)]
        refine wp_alloc_blk 29 rfl i0 _ hi0 hz0 ?_
        intro w4 hk10 hb4 hs4
        have hB4 := below_step hB3 hb4 (Nat.le_refl _)
        have hk11 := hk11.keep hb4
        refine hK.out _ _ ⟨k8o_below g0 hB4, k8o_below gq hB4⟩ (fun _ => ?_)
        clear hK K
        try simp only [Act.put, List.getElem_toArray, List.getElem_cons_zero, List.getElem_cons_succ, List.setIfInBounds_toArray, List.set_cons_zero, List.set_cons_succ]
        refine wpAnyH_ready (rs := [12]) (by kernel_rfl) (by simp) (AllReadyH.cons (o := _) rfl (fun K hK => ?_) AllReadyH.nil)
        rw [if_pos (by kernel_rfl)]
        refine wp_store_blk 29 _ _ rfl (w3.heap.size) 29 _ (ra x0 (.slice X0 m0 k0)) hk10 rfl rfl rfl size_rec (one_rec _ _ _ _) ?_
        intro w5 hk10 hT5
        have hk11 := hT5.blk hk11 (by omega)
        have g5 : (fun w' => K8o w' b o x0 (.slice X0 m0 k0) ∧ K8o w' b (o + (q + 1) * 8) xq (.slice Xq mq kq)) w5 := ⟨k8o_tn (k8o_below g0 hB4) hT5 (by omega), k8o_tn (k8o_below gq hB4) hT5 (by omega)⟩
        refine hK.out _ _ g5 (fun _ => ?_)
        clear hK K
        try simp only [Act.put, List.getElem_toArray, List.getElem_cons_zero, List.getElem_cons_succ, List.setIfInBounds_toArray, List.set_cons_zero, List.set_cons_succ]
        refine wpAnyH_take (i := 13) (oi := _) (v := ?_) rfl (by kernel_rfl) (by kernel_rfl) (by kernel_rfl) (fun _ _ _ h => h) (Or.inl ⟨by kernel_rfl, ?_⟩) g5 ?_
        rotate_left
        · (rintro w ⟨⟨s0, s1, s2, s3, s4, s5, s6, s7⟩, ⟨u0, u1, u2, u3, u4, u5, u6, u7⟩⟩; go_simp; (first | done | rfl))
        try simp only [Act.put, List.getElem_toArray, List.getElem_cons_zero, List.getElem_cons_succ, List.setIfInBounds_toArray, List.set_cons_zero, List.set_cons_succ]
        refine wpAnyH_ready (rs := [14]) (by kernel_rfl) (by simp) (AllReadyH.cons (o := _) rfl (fun K hK => ?_) AllReadyH.nil)
        rw [if_pos (by kernel_rfl)]
        refine wp_store_blk 29 _ _ rfl (w2.drew.heap.size) 29 _ (ra xq (.slice Xq mq kq)) hk11 rfl rfl rfl size_rec (one_rec _ _ _ _) ?_
        intro w6 hk11 hT6
        have hk10 := hT6.blk hk10 (by omega)
        have g6 : (fun w' => K8o w' b o x0 (.slice X0 m0 k0) ∧ K8o w' b (o + (q + 1) * 8) xq (.slice Xq mq kq)) w6 := ⟨k8o_tn g5.1 hT6 (by omega), k8o_tn g5.2 hT6 (by omega)⟩
        refine hK.out _ _ g6 (fun _ => ?_)
        clear hK K
        try simp only [Act.put, List.getElem_toArray, List.getElem_cons_zero, List.getElem_cons_succ, List.setIfInBounds_toArray, List.set_cons_zero, List.set_cons_succ]
        refine wpAnyH_done (by kernel_rfl) ?_ _
        refine NoPanic.normal ?_
        have hB6 : Below w2.drew.heap.size w2.drew w6 := (hB4.trans (hT5.below (by omega) (by omega))).trans (hT6.below (by omega) (Nat.le_trans (by omega) hT5.size))
        have hW6 : Below w.heap.size w w6 := hB2.trans ((Blo.below_undrew hB6).mono hB2.size)
        have hcut6 := hcut2.below (Blo.below_undrew hB6)
        simp only [Nat.one_mul, Nat.add_sub_cancel] at hcut6
        have y6 : w6.cell? ⟨w3.heap.size, 6, none⟩ = some (.int .i64 x0.len) := (k8 hk10).2.2.2.2.2.2.1
        have v6 : w6.cell? ⟨w2.heap.size, 6, none⟩ = some (.int .i64 xq.len) := (k8 hk11).2.2.2.2.2.2.1
        have hf6 := hd0.fit.len
        clear hs3 hs4 hB6 hT5 hT6 hB4 hB3 hb3 hb4 g5 g6 g0 gq hcut2 hd0 hdq hk10
        by_cases hbig : 1024 < x0.len
        · have HQ := Lib.hid (show chkE l = 6 by rw [HC.out, if_pos hbig])
          go_wp2
          go_ret
          rw [HQ.out]
          exact ⟨rfl, hW6⟩
        · go_wp2_with fail
          refine (rising_ _ x0.len (some ⟨b, o + 8, none⟩) q (c - 1) ((l.take (q + 1)).drop 1) hf6 hcut6 (by omega)).mono ?_
          cases hri : risA x0.len 0 ((l.take (q + 1)).drop 1) with
          | false =>
            have HQ := Lib.hid (show chkE l = 5 by rw [HC.out, if_neg (by omega), hri]; rfl)
            rintro e w7 ⟨rfl, hb7⟩
            clear hri
            go_wp2
            go_ret
            rw [HQ.out]
            exact ⟨rfl, hW6.trans (hb7.mono hW6.size)⟩
          | true =>
            rintro e w7 ⟨rfl, hb7⟩
            have v7 : w7.cell? ⟨w2.heap.size, 6, none⟩ = some (.int .i64 xq.len) := (k8 (hk11.keep hb7)).2.2.2.2.2.2.1
            by_cases hql : xq.len = (q : Int)
            · have HQ := Lib.hid (show chkE l = 0 by rw [HC.out, if_neg (by omega), hri, if_pos rfl, if_pos hql])
              have hql2 : (xq.len == (q : Int)) = true := by simp [hql]
              have hql3 : (xq.len != (q : Int)) = false := by simp [hql]
              clear hri hql
              go_wp2
              go_ret
              rw [HQ.out]
              exact ⟨rfl, hW6.trans (hb7.mono hW6.size)⟩
            · have HQ := Lib.hid (show chkE l = 3 by rw [HC.out, if_neg (by omega), hri, if_pos rfl, if_neg hql])
              clear hri
              go_wp2
              go_ret
              rw [HQ.out]
              exact ⟨rfl, hW6.trans (hb7.mono hW6.size)⟩
end
end Str
end Go.Proofs.Ytganoklclnbjkaa
