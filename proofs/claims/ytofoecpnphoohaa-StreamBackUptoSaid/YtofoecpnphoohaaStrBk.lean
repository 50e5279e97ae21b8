/- StreamBack: Build and Ops go back to one another: whatever the input, where what it reads is of bulk at most 1048576, the law returns true. -/
import Derived.Test.YtofoecpnphoohaaStrV
set_option linter.all false
namespace Go.Proofs.Ytofoecpnphoohaa
open Go.ChangeShapes Go.WideShapes Go.ChangeAt Go.RowKit
namespace Str
open Blo (I64)
theorem enters_S8 (vs : Array Value) (w : World) : (callFunc 17 vs).run Try.prog w = .ok (.enter 17 vs) w := by go_simp
theorem enters_alive (vs : Array Value) (w : World) : (callFunc 9 vs).run Try.prog w = .ok (.enter 9 vs) w := by go_simp
theorem below_undrewN {B : Nat} {a w : World} {k : Nat} (h : Below B (a.drew.drewN k) w) : Below B a w := ⟨h.os, h.tape, h.output, h.size, h.block⟩
theorem k8o_drewN {w : World} {b o : Nat} {r : Rec} {d : Value} (h : K8o w b o r d) (k : Nat) : K8o (w.drew.drewN k) b o r d := h
theorem k8_drewN {w : World} {b : Nat} {r : Rec} {d : Value} (h : K8 w b r d) (k : Nat) : K8 (w.drew.drewN k) b r d := h
theorem k8_below {w w' : World} {b : Nat} {r : Rec} {d : Value} (h : K8 w b r d) (hb : Below w.heap.size w w') : K8 w' b r d := by
  obtain ⟨h0, h1, h2, h3, h4, h5, h6, h7⟩ := h
  have g : ∀ {p : Addr} {u : Value}, w.cell? p = some u → w'.cell? p = some u := fun h => (hb.cell (cell_lt h)).trans h
  exact ⟨g h0, g h1, g h2, g h3, g h4, g h5, g h6, g h7⟩
theorem rdt_drewN {w : World} {r : Rec} {X : Option Addr} {m c : Nat} (h : Rdt w r X m c) (k : Nat) : Rdt (w.drew.drewN k) r X m c := ⟨h.ns, h.nil, h.le, h.cap, h.by8, h.fit⟩
theorem opOf_rec {o : BOp} (h : mayB (recOp o) = true) : opOf (recOp o) = o := by
  have hk := (of_decide_eq_true h : MayR (recOp o)).1.kind
  unfold recOp at hk
  dsimp only at hk
  have h12 : o.kind = 1 ∨ o.kind = 2 := by
    by_cases h1 : o.kind = 1
    · exact .inl h1
    · by_cases h2 : o.kind = 2
      · exact .inr h2
      · rw [if_neg h1, if_neg h2] at hk; omega
  unfold opOf recOp
  cases o
  dsimp only at *
  rcases h12 with rfl | rfl <;> simp
theorem mid_bld (h : Rec) (ops : List BOp) : midL (bldL h ops) = ops.map recOp := by
  unfold midL bldL
  simp
theorem back_ops {h : Rec} {ops : List BOp} (he : bldE h ops = 0) : opsV (bldL h ops) = ops ∧ chkE (bldL h ops) = 0 ∧ bareR h = h := by
  unfold bldE at he
  split at he
  · rename_i hk
    split at he
    · rename_i hm
      have hall : (bldL h ops).all mayB = true := by
        unfold chkE at he
        split at he
        · assumption
        · cases he
      refine ⟨?_, he, ?_⟩
      · unfold opsV
        rw [if_pos he, mid_bld, List.map_map]
        have : ∀ x ∈ ops, (opOf ∘ recOp) x = x := fun x hx => opOf_rec (List.all_eq_true.1 hall _ (by unfold bldL; simp only [List.mem_cons, List.mem_append, List.mem_map]; exact .inr (.inl ⟨x, hx, rfl⟩)))
        rw [List.map_congr_left this, List.map_id'']
        intro x; rfl
      · have hK := (of_decide_eq_true hm : MayR h).1
        have hd : h.d = [] := by
          rcases hK with ⟨_, _, hd⟩ | ⟨h2, _⟩ | ⟨h2, _⟩ | ⟨h2, _⟩
          · exact hd
          · omega
          · omega
          · omega
        unfold bareR
        cases h
        simp_all
    · cases he
  · cases he
theorem bulks_len {α : Type} (s : Shp α) (h : ∀ a, 1 ≤ s.bulk a) : ∀ l : List α, l.length ≤ bulks s l
  | [] => Nat.le_refl _
  | a :: l => by
    have h1 := h a
    have h2 := bulks_len s h l
    simp only [bulks, List.length_cons]
    omega
theorem op_bulk (a : OpV) : 1 ≤ opShp.bulk a := by show 1 ≤ _ + 1; omega
section
variable (w : World)
set_option maxRecDepth 100000 in
set_option maxHeartbeats 8000000 in
theorem streamBack_walk (h : Rec) (X : Option Addr) (m c : Nat) (hd : Rdt w h X m c) (A : Option Addr) (n d : Nat) (ops : List BOp) (ho : Blo.Opl w A n ops) (hnd : n ≤ d) (hdm : d ≤ 9223372036854775807) (hn : n ≤ 2000000) :
    Calls Try.prog 5 #[.agg (ra h (.slice X m c)), .slice A n d] w fun e w' => e = .returned (.bool true) ∧ Below w.heap.size w w' := by
  obtain ⟨w1, hw1⟩ : ∃ w1, w.alloc (.cells (ra h (.slice X m c)) 39) = w1 := ⟨_, rfl⟩
  have hs1 : w1.heap.size = w.heap.size + 1 := by rw [← hw1]; simp
  have hb1 : Below w.heap.size w w1 := by rw [← hw1]; exact (Below.refl _ _).alloc (Nat.le_refl _) _
  have hr1 : Blk w1 w.heap.size 39 (ra h (.slice X m c)) := by rw [← hw1]; exact Blk.new w _ _ rfl
  have hd1 := hd.below hb1
  have ho1 := ho.below hb1
  obtain ⟨a0, a1, a2, a3, a4, a5, a6, a7⟩ := k8 hr1
  obtain ⟨E, hEE⟩ : ∃ E, bldE h ops = E := ⟨_, rfl⟩
  go_enter Try.func5, Try.ntmps5
  go_wp2_with fail
  refine (build_ _ h X m c hd1 A n d ops ho1 hn).mono ?_
  unfold BuB BuA
  by_cases hE : E = 0
  · rw [hE] at hEE
    obtain ⟨hback, hchk, hbare⟩ := back_ops hEE
    have hV : bldV h ops = bldL h ops := by unfold bldV; rw [if_pos hEE]
    rw [hEE, hV]
    rintro e w2 ⟨B, m2, c2, L, rfl, hO, hL, hb2⟩
    obtain ⟨_, hc2, hm2, ha2⟩ := hO.bounds
    have hR := hO.rcl
    have hlen : m2 = n + 2 := by
      have h1 := hO.len
      have h2 := congrArg List.length hL
      have h3 := ho.len
      rw [List.length_map] at h2
      unfold bldL at h2
      simp only [List.length_cons, List.length_append, List.length_map, List.length_nil] at h2
      omega
    subst hlen
    rw [hL] at hR
    have hB2 := hb1.trans (hb2.mono hb1.size)
    have hk2 := hr1.keep hb2
    clear hV hEE hE
    go_wp2_with fail
    refine (sops_ _ B (n + 2) c2 (bldL h ops) hR hc2 hm2 (by omega)).mono ?_
    unfold OpsA
    rw [hchk, hback]
    rintro e w4 ⟨A4, m4, c4, L4, rfl, hO4, hL4, hb4⟩
    have hB4 := hB2.trans (hb4.mono hB2.size)
    have hS4 := (hO4.opl).drewN 1
    rw [hL4] at hS4
    have hS4' := (ho.below hB4).drewN 1
    have hm4 : m4 ≤ 9223372036854775807 := by have := hO4.len; have h2 := congrArg List.length hL4; rw [List.length_map] at h2; have := ho.len; omega
    have hk4 := hk2.keep hb4
    have hR4 := hR.below hb4
    obtain ⟨b, o, X0, m0, k0, x0, rfl, hx0, rc0, dx0⟩ := hR4.at_ (k := 0) (by omega)
    obtain rfl : x0 = bareR h := by unfold bldL at hx0; simpa using hx0.symm
    have k0' : K8o w4 b o (bareR h) (.slice X0 m0 k0) := by
      have := rc0.all
      simpa only [Nat.zero_mul, Nat.add_zero] using this
    have kh' : K8 w4 w.heap.size h (.slice X m c) := k8 hk4
    have dxh := hd.below hB4
    have t1 : (0 : Int) < (n : Int) + 2 := by omega
    have t2 : (0 : Nat) < n + 2 := by omega
    have t3 : IntKind.i64.wrap ((n : Int) + 2) = (n : Int) + 2 := by rw [IntKind.wrap_i64]; omega
    have t4 : ((n : Int) + 2 == (n : Int) + 2) = true := by simp
    have t5 : (((n + 2 : Nat) : Int) == (n : Int) + 2) = true := by simp
    have t6 : -9223372036854775808 ≤ (n : Int) + 2 := by omega
    have t7 : (n : Int) + 2 ≤ 9223372036854775807 := by omega
    clear hR hR4 rc0 hx0 hk2 hk4 hO hO4 hb2 hb4 ho1 hd1 a0 a1 a2 a3 a4 a5 a6 a7
    go_wp2_with fail
    refine wp_region_noPanic ?_
    refine wp_region_held_drew (S := (fun w' => K8o w' b o (bareR h) (.slice X0 m0 k0) ∧ K8 w' w.heap.size h (.slice X m c))) (by kernel_rfl) ⟨k8o_drew k0', kh'⟩ (fun _ => ?_)
    refine wpAnyH_take (i := 0) (oi := _) (v := ?_) rfl (by kernel_rfl) (by kernel_rfl) (by kernel_rfl) (fun _ _ _ h => h) (Or.inl ⟨by kernel_rfl, ?_⟩) ⟨k8o_drew k0', kh'⟩ ?_
    rotate_left
    · (rintro w ⟨⟨s0, s1, s2, s3, s4, s5, s6, s7⟩, ⟨u0, u1, u2, u3, u4, u5, u6, u7⟩⟩; go_simp; (first | done | rfl))
    try simp only [Act.put, List.getElem_toArray, List.getElem_cons_zero, List.getElem_cons_succ, List.setIfInBounds_toArray, List.set_cons_zero, List.set_cons_succ]
    refine wpAnyH_take (i := 1) (oi := _) (v := ?_) rfl (by kernel_rfl) (by kernel_rfl) (by kernel_rfl) (fun _ _ _ h => h) (Or.inl ⟨by kernel_rfl, ?_⟩) ⟨k8o_drew k0', kh'⟩ ?_
    rotate_left
    · (rintro w ⟨⟨s0, s1, s2, s3, s4, s5, s6, s7⟩, ⟨u0, u1, u2, u3, u4, u5, u6, u7⟩⟩; go_simp; (first | done | rfl))
    try simp only [Act.put, List.getElem_toArray, List.getElem_cons_zero, List.getElem_cons_succ, List.setIfInBounds_toArray, List.set_cons_zero, List.set_cons_succ]
    refine wpAnyH_take (i := 2) (oi := _) (v := ?_) rfl (by kernel_rfl) (by kernel_rfl) (by kernel_rfl) (fun _ _ _ h => h) (Or.inl ⟨by kernel_rfl, ?_⟩) ⟨k8o_drew k0', kh'⟩ ?_
    rotate_left
    · (rintro w ⟨⟨s0, s1, s2, s3, s4, s5, s6, s7⟩, ⟨u0, u1, u2, u3, u4, u5, u6, u7⟩⟩; go_simp; (first | done | rfl))
    try simp only [Act.put, List.getElem_toArray, List.getElem_cons_zero, List.getElem_cons_succ, List.setIfInBounds_toArray, List.set_cons_zero, List.set_cons_succ]
    refine wpAnyH_take (i := 3) (oi := _) (v := ?_) rfl (by kernel_rfl) (by kernel_rfl) (by kernel_rfl) (fun _ _ _ h => h) (Or.inl ⟨by kernel_rfl, ?_⟩) ⟨k8o_drew k0', kh'⟩ ?_
    rotate_left
    · (rintro w ⟨⟨s0, s1, s2, s3, s4, s5, s6, s7⟩, ⟨u0, u1, u2, u3, u4, u5, u6, u7⟩⟩; go_simp; (first | done | rfl))
    try simp only [Act.put, List.getElem_toArray, List.getElem_cons_zero, List.getElem_cons_succ, List.setIfInBounds_toArray, List.set_cons_zero, List.set_cons_succ]
    refine wpAnyH_take (i := 4) (oi := _) (v := ?_) rfl (by kernel_rfl) (by kernel_rfl) (by kernel_rfl) (fun _ _ _ h => h) (Or.inl ⟨by kernel_rfl, ?_⟩) ⟨k8o_drew k0', kh'⟩ ?_
    rotate_left
    · (rintro w ⟨⟨s0, s1, s2, s3, s4, s5, s6, s7⟩, ⟨u0, u1, u2, u3, u4, u5, u6, u7⟩⟩; go_simp; (first | done | rfl))
    try simp only [Act.put, List.getElem_toArray, List.getElem_cons_zero, List.getElem_cons_succ, List.setIfInBounds_toArray, List.set_cons_zero, List.set_cons_succ]
    refine wpAnyH_ready (rs := [5]) (by kernel_rfl) (by simp) (AllReadyH.cons (o := _) rfl (fun K hK => ?_) AllReadyH.nil)
    rw [if_pos (by kernel_rfl)]
    refine wp_fn 17 _ _ rfl _ rfl enters_S8 (Blo.same_ _ A4 A m4 n c4 d ops hS4 hS4' hm4) ?_
    rintro e w5 ⟨rfl, kk, rfl⟩
    refine ⟨_, rfl, ?_⟩
    refine hK.out _ _ ⟨k8o_drewN k0' _, k8_drewN kh' _⟩ (fun _ => ?_)
    clear hK K
    try simp only [Act.put, List.getElem_toArray, List.getElem_cons_zero, List.getElem_cons_succ, List.setIfInBounds_toArray, List.set_cons_zero, List.set_cons_succ]
    refine wpAnyH_take (i := 6) (oi := _) (v := ?_) rfl (by kernel_rfl) (by kernel_rfl) (by kernel_rfl) (fun _ _ _ h => h) (Or.inl ⟨by kernel_rfl, ?_⟩) ⟨k8o_drewN k0' _, k8_drewN kh' _⟩ ?_
    rotate_left
    · (rintro w ⟨⟨s0, s1, s2, s3, s4, s5, s6, s7⟩, ⟨u0, u1, u2, u3, u4, u5, u6, u7⟩⟩; go_simp; (first | done | rfl))
    try simp only [Act.put, List.getElem_toArray, List.getElem_cons_zero, List.getElem_cons_succ, List.setIfInBounds_toArray, List.set_cons_zero, List.set_cons_succ]
    refine wpAnyH_take (i := 7) (oi := _) (v := ?_) rfl (by kernel_rfl) (by kernel_rfl) (by kernel_rfl) (fun _ _ _ h => h) (Or.inl ⟨by kernel_rfl, ?_⟩) ⟨k8o_drewN k0' _, k8_drewN kh' _⟩ ?_
    rotate_left
    · (rintro w ⟨⟨s0, s1, s2, s3, s4, s5, s6, s7⟩, ⟨u0, u1, u2, u3, u4, u5, u6, u7⟩⟩; go_simp; (first | done | rfl))
    try simp only [Act.put, List.getElem_toArray, List.getElem_cons_zero, List.getElem_cons_succ, List.setIfInBounds_toArray, List.set_cons_zero, List.set_cons_succ]
    refine wpAnyH_take (i := 8) (oi := _) (v := ?_) rfl (by kernel_rfl) (by kernel_rfl) (by kernel_rfl) (fun _ _ _ h => h) (Or.inl ⟨by kernel_rfl, ?_⟩) ⟨k8o_drewN k0' _, k8_drewN kh' _⟩ ?_
    rotate_left
    · (rintro w ⟨⟨s0, s1, s2, s3, s4, s5, s6, s7⟩, ⟨u0, u1, u2, u3, u4, u5, u6, u7⟩⟩; go_simp; (first | done | rfl))
    try simp only [Act.put, List.getElem_toArray, List.getElem_cons_zero, List.getElem_cons_succ, List.setIfInBounds_toArray, List.set_cons_zero, List.set_cons_succ]
    refine wpAnyH_take (i := 9) (oi := _) (v := ?_) rfl (by kernel_rfl) (by kernel_rfl) (by kernel_rfl) (fun _ _ _ h => h) (Or.inl ⟨by kernel_rfl, ?_⟩) ⟨k8o_drewN k0' _, k8_drewN kh' _⟩ ?_
    rotate_left
    · (rintro w ⟨⟨s0, s1, s2, s3, s4, s5, s6, s7⟩, ⟨u0, u1, u2, u3, u4, u5, u6, u7⟩⟩; go_simp; (first | done | rfl))
    try simp only [Act.put, List.getElem_toArray, List.getElem_cons_zero, List.getElem_cons_succ, List.setIfInBounds_toArray, List.set_cons_zero, List.set_cons_succ]
    refine wpAnyH_take (i := 10) (oi := _) (v := ?_) rfl (by kernel_rfl) (by kernel_rfl) (by kernel_rfl) (fun _ _ _ h => h) (Or.inl ⟨by kernel_rfl, ?_⟩) ⟨k8o_drewN k0' _, k8_drewN kh' _⟩ ?_
    rotate_left
    · (rintro w ⟨⟨s0, s1, s2, s3, s4, s5, s6, s7⟩, ⟨u0, u1, u2, u3, u4, u5, u6, u7⟩⟩; go_simp; (first | done | rfl))
    try simp only [Act.put, List.getElem_toArray, List.getElem_cons_zero, List.getElem_cons_succ, List.setIfInBounds_toArray, List.set_cons_zero, List.set_cons_succ]
    refine wpAnyH_take (i := 11) (oi := _) (v := ?_) rfl (by kernel_rfl) (by kernel_rfl) (by kernel_rfl) (fun _ _ _ h => h) (Or.inl ⟨by kernel_rfl, ?_⟩) ⟨k8o_drewN k0' _, k8_drewN kh' _⟩ ?_
    rotate_left
    · (rintro w ⟨⟨s0, s1, s2, s3, s4, s5, s6, s7⟩, ⟨u0, u1, u2, u3, u4, u5, u6, u7⟩⟩; go_simp; (first | done | rfl))
    try simp only [Act.put, List.getElem_toArray, List.getElem_cons_zero, List.getElem_cons_succ, List.setIfInBounds_toArray, List.set_cons_zero, List.set_cons_succ]
    refine wpAnyH_ready (rs := [12]) (by kernel_rfl) (by simp) (AllReadyH.cons (o := _) rfl (fun K hK => ?_) AllReadyH.nil)
    rw [if_pos (by kernel_rfl)]
    refine wp_fn 14 _ _ rfl _ rfl enters_One (one_t _ (bareR h) h X0 X m0 k0 m c (rdt_drewN dx0 _) (rdt_drewN dxh _) hbare) ?_
    rintro e w6 ⟨rfl, hb6⟩
    have hb6' : Below w4.heap.size w4 w6 := below_undrewN hb6
    refine ⟨_, rfl, ?_⟩
    refine hK.out _ _ ⟨k8o_below k0' hb6', k8_below kh' hb6'⟩ (fun _ => ?_)
    clear hK K
    try simp only [Act.put, List.getElem_toArray, List.getElem_cons_zero, List.getElem_cons_succ, List.setIfInBounds_toArray, List.set_cons_zero, List.set_cons_succ]
    refine wpAnyH_take (i := 13) (oi := _) (v := ?_) rfl (by kernel_rfl) (by kernel_rfl) (by kernel_rfl) (fun _ _ _ h => h) (Or.inl ⟨by kernel_rfl, ?_⟩) ⟨k8o_below k0' hb6', k8_below kh' hb6'⟩ ?_
    rotate_left
    · (rintro w ⟨⟨s0, s1, s2, s3, s4, s5, s6, s7⟩, ⟨u0, u1, u2, u3, u4, u5, u6, u7⟩⟩; go_simp; (first | done | rfl))
    try simp only [Act.put, List.getElem_toArray, List.getElem_cons_zero, List.getElem_cons_succ, List.setIfInBounds_toArray, List.set_cons_zero, List.set_cons_succ]
    refine wpAnyH_take (i := 14) (oi := _) (v := ?_) rfl (by kernel_rfl) (by kernel_rfl) (by kernel_rfl) (fun _ _ _ h => h) (Or.inl ⟨by kernel_rfl, ?_⟩) ⟨k8o_below k0' hb6', k8_below kh' hb6'⟩ ?_
    rotate_left
    · (rintro w ⟨⟨s0, s1, s2, s3, s4, s5, s6, s7⟩, ⟨u0, u1, u2, u3, u4, u5, u6, u7⟩⟩; go_simp; (first | done | rfl))
    try simp only [Act.put, List.getElem_toArray, List.getElem_cons_zero, List.getElem_cons_succ, List.setIfInBounds_toArray, List.set_cons_zero, List.set_cons_succ]
    refine wpAnyH_take (i := 15) (oi := _) (v := ?_) rfl (by kernel_rfl) (by kernel_rfl) (by kernel_rfl) (fun _ _ _ h => h) (Or.inl ⟨by kernel_rfl, ?_⟩) ⟨k8o_below k0' hb6', k8_below kh' hb6'⟩ ?_
    rotate_left
    · (rintro w ⟨⟨s0, s1, s2, s3, s4, s5, s6, s7⟩, ⟨u0, u1, u2, u3, u4, u5, u6, u7⟩⟩; go_simp; (first | done | rfl))
    try simp only [Act.put, List.getElem_toArray, List.getElem_cons_zero, List.getElem_cons_succ, List.setIfInBounds_toArray, List.set_cons_zero, List.set_cons_succ]
    refine wpAnyH_take (i := 16) (oi := _) (v := ?_) rfl (by kernel_rfl) (by kernel_rfl) (by kernel_rfl) (fun _ _ _ h => h) (Or.inl ⟨by kernel_rfl, ?_⟩) ⟨k8o_below k0' hb6', k8_below kh' hb6'⟩ ?_
    rotate_left
    · (rintro w ⟨⟨s0, s1, s2, s3, s4, s5, s6, s7⟩, ⟨u0, u1, u2, u3, u4, u5, u6, u7⟩⟩; go_simp; (first | done | rfl))
    try simp only [Act.put, List.getElem_toArray, List.getElem_cons_zero, List.getElem_cons_succ, List.setIfInBounds_toArray, List.set_cons_zero, List.set_cons_succ]
    refine wpAnyH_take (i := 17) (oi := _) (v := ?_) rfl (by kernel_rfl) (by kernel_rfl) (by kernel_rfl) (fun _ _ _ h => h) (Or.inl ⟨by kernel_rfl, ?_⟩) ⟨k8o_below k0' hb6', k8_below kh' hb6'⟩ ?_
    rotate_left
    · (rintro w ⟨⟨s0, s1, s2, s3, s4, s5, s6, s7⟩, ⟨u0, u1, u2, u3, u4, u5, u6, u7⟩⟩; go_simp; (first | done | rfl))
    try simp only [Act.put, List.getElem_toArray, List.getElem_cons_zero, List.getElem_cons_succ, List.setIfInBounds_toArray, List.set_cons_zero, List.set_cons_succ]
    refine wpAnyH_take (i := 18) (oi := _) (v := ?_) rfl (by kernel_rfl) (by kernel_rfl) (by kernel_rfl) (fun _ _ _ h => h) (Or.inl ⟨by kernel_rfl, ?_⟩) ⟨k8o_below k0' hb6', k8_below kh' hb6'⟩ ?_
    rotate_left
    · (rintro w ⟨⟨s0, s1, s2, s3, s4, s5, s6, s7⟩, ⟨u0, u1, u2, u3, u4, u5, u6, u7⟩⟩; go_simp; (first | done | rfl))
    try simp only [Act.put, List.getElem_toArray, List.getElem_cons_zero, List.getElem_cons_succ, List.setIfInBounds_toArray, List.set_cons_zero, List.set_cons_succ]
    refine wpAnyH_take (i := 19) (oi := _) (v := ?_) rfl (by kernel_rfl) (by kernel_rfl) (by kernel_rfl) (fun _ _ _ h => h) (Or.inl ⟨by kernel_rfl, ?_⟩) ⟨k8o_below k0' hb6', k8_below kh' hb6'⟩ ?_
    rotate_left
    · (rintro w ⟨⟨s0, s1, s2, s3, s4, s5, s6, s7⟩, ⟨u0, u1, u2, u3, u4, u5, u6, u7⟩⟩; go_simp; (first | done | rfl))
    try simp only [Act.put, List.getElem_toArray, List.getElem_cons_zero, List.getElem_cons_succ, List.setIfInBounds_toArray, List.set_cons_zero, List.set_cons_succ]
    refine wpAnyH_take (i := 20) (oi := _) (v := ?_) rfl (by kernel_rfl) (by kernel_rfl) (by kernel_rfl) (fun _ _ _ h => h) (Or.inl ⟨by kernel_rfl, ?_⟩) ⟨k8o_below k0' hb6', k8_below kh' hb6'⟩ ?_
    rotate_left
    · (rintro w ⟨⟨s0, s1, s2, s3, s4, s5, s6, s7⟩, ⟨u0, u1, u2, u3, u4, u5, u6, u7⟩⟩; go_simp; (first | done | rfl))
    try simp only [Act.put, List.getElem_toArray, List.getElem_cons_zero, List.getElem_cons_succ, List.setIfInBounds_toArray, List.set_cons_zero, List.set_cons_succ]
    refine wpAnyH_take (i := 21) (oi := _) (v := ?_) rfl (by kernel_rfl) (by kernel_rfl) (by kernel_rfl) (fun _ _ _ h => h) (Or.inl ⟨by kernel_rfl, ?_⟩) ⟨k8o_below k0' hb6', k8_below kh' hb6'⟩ ?_
    rotate_left
    · (rintro w ⟨⟨s0, s1, s2, s3, s4, s5, s6, s7⟩, ⟨u0, u1, u2, u3, u4, u5, u6, u7⟩⟩; go_simp; (first | done | rfl))
    try simp only [Act.put, List.getElem_toArray, List.getElem_cons_zero, List.getElem_cons_succ, List.setIfInBounds_toArray, List.set_cons_zero, List.set_cons_succ]
    refine wpAnyH_take (i := 22) (oi := _) (v := ?_) rfl (by kernel_rfl) (by kernel_rfl) (by kernel_rfl) (fun _ _ _ h => h) (Or.inl ⟨by kernel_rfl, ?_⟩) ⟨k8o_below k0' hb6', k8_below kh' hb6'⟩ ?_
    rotate_left
    · (rintro w ⟨⟨s0, s1, s2, s3, s4, s5, s6, s7⟩, ⟨u0, u1, u2, u3, u4, u5, u6, u7⟩⟩; go_simp; (first | done | rfl))
    try simp only [Act.put, List.getElem_toArray, List.getElem_cons_zero, List.getElem_cons_succ, List.setIfInBounds_toArray, List.set_cons_zero, List.set_cons_succ]
    refine wpAnyH_ready (rs := [23]) (by kernel_rfl) (by simp) (AllReadyH.cons (o := _) rfl (fun K hK => ?_) AllReadyH.nil)
    rw [if_pos (by kernel_rfl)]
    refine wp_fn 9 _ _ rfl _ rfl enters_alive (alive_ _) ?_
    rintro e w7 ⟨rfl, hb7⟩
    have hb7' : Below w4.heap.size w4 w7 := below_step hb6' hb7 (Nat.le_refl _)
    refine ⟨_, rfl, ?_⟩
    refine hK.out _ _ ⟨k8o_below k0' hb7', k8_below kh' hb7'⟩ (fun _ => ?_)
    clear hK K
    try simp only [Act.put, List.getElem_toArray, List.getElem_cons_zero, List.getElem_cons_succ, List.setIfInBounds_toArray, List.set_cons_zero, List.set_cons_succ]
    refine wpAnyH_take (i := 24) (oi := _) (v := ?_) rfl (by kernel_rfl) (by kernel_rfl) (by kernel_rfl) (fun _ _ _ h => h) (Or.inl ⟨by kernel_rfl, ?_⟩) ⟨k8o_below k0' hb7', k8_below kh' hb7'⟩ ?_
    rotate_left
    · (rintro w ⟨⟨s0, s1, s2, s3, s4, s5, s6, s7⟩, ⟨u0, u1, u2, u3, u4, u5, u6, u7⟩⟩; go_simp; (first | done | rfl))
    try simp only [Act.put, List.getElem_toArray, List.getElem_cons_zero, List.getElem_cons_succ, List.setIfInBounds_toArray, List.set_cons_zero, List.set_cons_succ]
    refine wpAnyH_take (i := 25) (oi := _) (v := ?_) rfl (by kernel_rfl) (by kernel_rfl) (by kernel_rfl) (fun _ _ _ h => h) (Or.inl ⟨by kernel_rfl, ?_⟩) ⟨k8o_below k0' hb7', k8_below kh' hb7'⟩ ?_
    rotate_left
    · (rintro w ⟨⟨s0, s1, s2, s3, s4, s5, s6, s7⟩, ⟨u0, u1, u2, u3, u4, u5, u6, u7⟩⟩; go_simp; (first | done | rfl))
    try simp only [Act.put, List.getElem_toArray, List.getElem_cons_zero, List.getElem_cons_succ, List.setIfInBounds_toArray, List.set_cons_zero, List.set_cons_succ]
    refine wpAnyH_done (by kernel_rfl) ?_ _
    refine NoPanic.normal ?_
    go_wp2
    go_ret
    exact ⟨rfl, hB4.trans (hb7'.mono hB4.size)⟩
  · have hV : bldV h ops = [] := by unfold bldV; rw [hEE, if_neg hE]
    have hE2 : (E != 0) = true := by simp [hE]
    rw [hEE, hV]
    rintro e w2 ⟨B, m2, c2, L, rfl, hO, hL, hb2⟩
    have hm2 : m2 = 0 := by rw [hO.len, ← List.length_map (f := Prod.fst), hL]; rfl
    subst hm2
    have hB2 := hb1.trans (hb2.mono hb1.size)
    go_wp2_with (first
      | (go_at_call 9
         refine (alive_ _).mono ?_
         rintro e w10 ⟨rfl, hb10⟩))
    go_ret
    exact ⟨rfl, hB2.trans (hb10.mono hB2.size)⟩
end
end Str
open Str

set_option maxRecDepth 100000 in
theorem streamBack_lifted (os : Os) (started : os.Started) (H : Type) (enc : TypeId × Value → H) (F : Stop.Interp) :
    ReturnsInHanded {} Try.checked os 5 .any ((Rows.OpenSpec.upto Rows.streamBackSpec).pre6 enc Try.prog Try.f5 Rows.streamBackUptoRow.domain false) (((Rows.OpenSpec.upto Rows.streamBackSpec).at F).post enc Try.prog Try.f5 false true false false) := by
  refine law_upto (C := Try.checked) (tb := 4) own_ started (by kernel_rfl) Try.func5
    (OpenSpec.witness (enc := enc) (C := Try.checked) (s := Rows.OpenSpec.upto Rows.streamBackSpec) (k := Rows.uptoSmall) rfl false ⟨#[], #[.agg #[.int .i64 0, .int .i64 0, .int .i64 0, .int .i64 0, .int .i64 0, .int .i64 0, .int .i64 0, .slice none 0 0], .slice none 0 0], []⟩ 8 (by kernel_rfl) (by kernel_rfl) (by kernel_rfl) (x := ([.agg [.lit (.int .i64 0), .lit (.int .i64 0), .lit (.int .i64 0), .lit (.int .i64 0), .lit (.int .i64 0), .lit (.int .i64 0), .lit (.int .i64 0), .nil], .nil], [], [])) (by kernel_rfl) rfl (by kernel_rfl))
    rfl rfl Try.underlying4 laidOut_ (by kernel_rfl) (fun ds h => by match ds, h with | [_, _], _ => rfl) ?_
  intro W base args ds p hval0 hA0 _ hsz0 hbulk
  have hval : ∀ (j : Nat) t v, Try.f5.params[j]? = some t → args[j]? = some v → Value.okWide Try.prog W .any base t v := hval0
  have hA : DataW.TrodAll enc Try.prog W 0 (fun _ => true) true Try.f5.params.toList args.toList ds p := hA0
  have hsz : (DataW.weightsEach Try.prog Try.f5.params.toList ds).all (· ≤ reachBytes) = true := hsz0
  clear hval0 hA0 hsz0
  rw [Try.params5] at hA hval hsz
  obtain ⟨v0, v1, d0, d1, p0, p1, rfl, rfl, rfl, h0, h1⟩ := trodAll_two hA
  have hB : Rows.uptoBulk d0 + Rows.uptoBulk d1 ≤ 1048576 := by simp only [Rows.uptoBulkAll] at hbulk; omega
  obtain ⟨cs0, a0, rfl, r0, b0⟩ := arg_struct ops_rec Try.underlying39 (hval 0 _ v0 rfl rfl) h0 (weight_at hsz (j := 0) rfl rfl)
  obtain ⟨A1, n1, c1, xs1, rfl, r1, b1⟩ := arg_slice ops_ops Try.underlying42 (hval 1 _ v1 rfl rfl) h1 (weight_at hsz (j := 1) rfl rfl)
  obtain ⟨X0, m0, k0, rfl, dx0⟩ := rec_arr r0
  obtain ⟨q1, q2, q3⟩ := ops_os r1
  have hb := bulks_len opShp op_bulk xs1
  have hl := q1.len
  rw [List.length_map] at hl
  have hb1 : bulks opShp xs1 + 1 ≤ Rows.uptoBulk d1 := b1
  exact streamBack_walk W _ X0 m0 k0 dx0 A1 n1 c1 _ q1 q2 q3 (by omega)

/-- StreamBack, where what it reads is of bulk at most 1048576: the statement as it was given. -/
theorem streamBack_holds : Rows.StreamBackUptoSaid :=
  OpenClaim.holds_of_cond 5 Try.f5 rfl rfl rfl rfl rfl rfl rfl ⟨rfl, rfl, rfl, rfl, rfl⟩ rfl rfl rfl rfl rfl (by kernel_rfl) Try.func5 (by kernel_rfl)
    (of_decide_eq_true (by kernel_rfl)) (by unfold Func.isWrapper; first | (rw [if_pos (by decide +kernel)]; kernel_rfl) | (rw [if_neg (by decide +kernel)]; exact ⟨rfl, rfl⟩))
    (fun os started H enc _ F => streamBack_lifted os started H enc F)
end Go.Proofs.Ytofoecpnphoohaa
