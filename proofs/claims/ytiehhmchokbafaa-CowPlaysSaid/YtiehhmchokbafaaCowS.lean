/- Layer 7: whether a node is one of a tree's; how many are none of another one's. -/
import Derived.Test.YtiehhmchokbafaaCowT
import Derived.Test.YtiehhmchokbafaaCowX
import Derived.LaidEqlPtr
set_option linter.all false
namespace Go.Proofs.Ytiehhmchokbafaa
open Go.RowKit

/-- Block b is a node of the tree. -/
def Nd (w : World) (b : Nat) : Option Addr → Tr → Prop
  | _, .nil => False
  | a, .node _ lo x hi => ∃ b0 al ah, a = some ⟨b0, 0, none⟩ ∧ Blk w b0 80 (nd x al ah (max lo.deep hi.deep + 1) (lo.size + hi.size + 1)) ∧ (b = b0 ∨ Nd w b al lo ∨ Nd w b ah hi)
theorem nd_inj {x x' : Ext} {al al' ah ah' : Option Addr} {d d' s s' : Nat} (h : nd x al ah d s = nd x' al' ah' d' s') : x.off = x'.off ∧ al = al' ∧ ah = ah' := by
  simp only [nd, Array.mk.injEq, List.cons.injEq, Value.int.injEq, Value.pointer.injEq, true_and] at h
  exact ⟨h.1, h.2.2.2.2.1, h.2.2.2.2.2.1⟩
theorem blk_inj {w : World} {b : Nat} {t t' : TypeId} {cs cs' : Array Value} (h : Blk w b t cs) (k : Blk w b t' cs') : cs = cs' := by
  have h : w.heap[b]? = _ := h
  have k : w.heap[b]? = _ := k
  rw [h] at k
  injection k with k
  injection k
theorem nd_off {w : World} {S : Nat → Prop} {b : Nat} : ∀ {t : Tr} {a : Option Addr}, Tree w S a t → Nd w b a t → ∃ x ∈ t.list, ∃ al ah d s, Blk w b 80 (nd x al ah d s)
  | .node _ lo x hi, a, h, hb => by
    obtain ⟨b1, al, ah, rfl, h1, -, -, h4, h5⟩ := h
    obtain ⟨b0, al', ah', e, k1, hb⟩ := hb
    injection e with e
    injection e with e
    subst e
    obtain ⟨-, rfl, rfl⟩ := nd_inj (blk_inj h1 k1)
    rw [list_node]
    rcases hb with rfl | hb | hb
    · exact ⟨x, by simp, _, _, _, _, h1⟩
    · obtain ⟨y, hy, r⟩ := nd_off h4 hb
      exact ⟨y, by simp [hy], r⟩
    · obtain ⟨y, hy, r⟩ := nd_off h5 hb
      exact ⟨y, by simp [hy], r⟩
/-- No node is new. -/
def Tr.olden : Tr → Tr
  | .nil => .nil
  | .node _ lo x hi => .node false lo.olden x hi.olden
theorem Tr.olden_list : ∀ t : Tr, t.olden.list = t.list
  | .nil => rfl
  | .node _ lo x hi => by simp only [Tr.olden, Tr.list, Tr.olden_list lo, Tr.olden_list hi]
theorem Tr.olden_size (t : Tr) : t.olden.size = t.size := by rw [Tr.size_list, Tr.size_list, Tr.olden_list]
theorem Tr.olden_deep : ∀ t : Tr, t.olden.deep = t.deep
  | .nil => rfl
  | .node _ lo x hi => by simp only [Tr.olden, Tr.deep, Tr.olden_deep lo, Tr.olden_deep hi]
theorem Tr.olden_bal : ∀ {t : Tr}, t.bal → t.olden.bal
  | .nil, _ => trivial
  | .node _ lo x hi, h => ⟨Tr.olden_bal h.1, Tr.olden_bal h.2.1, by rw [Tr.olden_deep, Tr.olden_deep]; exact h.2.2.1, by rw [Tr.olden_deep, Tr.olden_deep]; exact h.2.2.2⟩
theorem Tr.olden_fresh : ∀ t : Tr, t.olden.fresh = 0
  | .nil => rfl
  | .node _ lo x hi => by simp [Tr.olden, Tr.fresh, Tr.olden_fresh lo, Tr.olden_fresh hi]
theorem tree_olden {w : World} {S S' : Nat → Prop} : ∀ {t : Tr} {a : Option Addr}, Tree w S a t → (∀ b, Nd w b a t → S' b) → Tree w S' a t.olden
  | .nil, _, h, _ => h
  | .node _ lo x hi, a, h, hS => by
    obtain ⟨b, al, ah, rfl, h1, h2, h3, h4, h5⟩ := h
    refine ⟨b, al, ah, rfl, ?_, h2, fun _ => hS b ⟨b, al, ah, rfl, h1, .inl rfl⟩, tree_olden h4 fun c hc => hS c ⟨b, al, ah, rfl, h1, .inr (.inl hc)⟩, tree_olden h5 fun c hc => hS c ⟨b, al, ah, rfl, h1, .inr (.inr hc)⟩⟩
    rw [Tr.olden_deep, Tr.olden_deep, Tr.olden_size, Tr.olden_size]
    exact h1
theorem Nd.below {w w' : World} {b : Nat} (hb : Below w.heap.size w w') : ∀ {t : Tr} {a : Option Addr}, Nd w b a t → Nd w' b a t
  | .node _ lo x hi, a, h => by
    obtain ⟨b0, al, ah, rfl, h1, h2⟩ := h
    exact ⟨b0, al, ah, rfl, h1.keep hb, h2.imp id (Or.imp (Nd.below hb) (Nd.below hb))⟩
theorem Nd.var {w w' : World} {q b : Nat} {cs : Array Value} (hq : Blk w q 70 cs) (ht : Tn q (q + 1) w w') : ∀ {t : Tr} {a : Option Addr}, Nd w b a t → Nd w' b a t
  | .node _ lo x hi, a, h => by
    obtain ⟨b0, al, ah, rfl, h1, h2⟩ := h
    have hne : b0 ≠ q := fun e => by subst e; exact (by decide : 70 ≠ 80) (blk_type hq h1)
    exact ⟨b0, al, ah, rfl, ht.blk h1 (by omega), h2.imp id (Or.imp (Nd.var hq ht) (Nd.var hq ht))⟩

section
variable (S : Nat → Prop)
set_option maxRecDepth 100000 in
set_option maxHeartbeats 4000000 in
theorem toward_lo (bl : Nat) (aL aR : Option Addr) (kx : Ext) (d s : Nat) (i : Int) (w : World) (h : Blk w bl 80 (nd kx aL aR d s)) (c : i < kx.off) :
    Calls Try.prog 39 #[.agg #[.pointer (some ⟨bl, 0, none⟩)], .int .i64 i] w fun en w' => en = .returned (.agg #[.pointer aL]) ∧ Below w.heap.size w w' := by
  have hB0 : Below w.heap.size w (w.alloc (.cells #[.pointer (some ⟨bl, 0, none⟩)] 70)) := (Below.refl _ _).alloc (Nat.le_refl _) _
  have n1 := (h.keep hB0).alloc (.cells #[.pointer none] 70)
  have e1 := n1.cell (j := 0) (u := .int .i64 kx.off) rfl
  have e4 := n1.cell (j := 4) (u := .pointer aL) rfl
  have hk : Blk ((w.alloc (.cells #[.pointer (some ⟨bl, 0, none⟩)] 70)).alloc (.cells #[.pointer aL] 70)) (w.heap.size + 1) 70 #[.pointer aL] := Blk.new _ _ _ (by simp)
  have hB : Below w.heap.size w ((w.alloc (.cells #[.pointer (some ⟨bl, 0, none⟩)] 70)).alloc (.cells #[.pointer aL] 70)) := hB0.alloc (by simp) _
  go_enter Try.func39, Try.ntmps39
  go_wp2
  refine bodyPost_ret (results_tr rfl rfl hk) rfl ?_
  exact ⟨rfl, hB⟩
set_option maxRecDepth 100000 in
set_option maxHeartbeats 4000000 in
theorem toward_hi (bl : Nat) (aL aR : Option Addr) (kx : Ext) (d s : Nat) (i : Int) (w : World) (h : Blk w bl 80 (nd kx aL aR d s)) (c : ¬ i < kx.off) :
    Calls Try.prog 39 #[.agg #[.pointer (some ⟨bl, 0, none⟩)], .int .i64 i] w fun en w' => en = .returned (.agg #[.pointer aR]) ∧ Below w.heap.size w w' := by
  have hB0 : Below w.heap.size w (w.alloc (.cells #[.pointer (some ⟨bl, 0, none⟩)] 70)) := (Below.refl _ _).alloc (Nat.le_refl _) _
  have n1 := (h.keep hB0).alloc (.cells #[.pointer none] 70)
  have e1 := n1.cell (j := 0) (u := .int .i64 kx.off) rfl
  have e4 := n1.cell (j := 5) (u := .pointer aR) rfl
  have hk : Blk ((w.alloc (.cells #[.pointer (some ⟨bl, 0, none⟩)] 70)).alloc (.cells #[.pointer aR] 70)) (w.heap.size + 1) 70 #[.pointer aR] := Blk.new _ _ _ (by simp)
  have hB : Below w.heap.size w ((w.alloc (.cells #[.pointer (some ⟨bl, 0, none⟩)] 70)).alloc (.cells #[.pointer aR] 70)) := hB0.alloc (by simp) _
  go_enter Try.func39, Try.ntmps39
  go_wp2
  refine bodyPost_ret (results_tr rfl rfl hk) rfl ?_
  exact ⟨rfl, hB⟩
/-- How many nodes the tree in a variable has. -/
def cntAt (w : World) (g : Nat) : Nat := match w.cell? ⟨g, 0, none⟩ with
  | some (.pointer (some p)) => match w.cell? ⟨p.block, 7, none⟩ with
    | some (.int _ n) => n.toNat
    | _ => 0
  | _ => 0
theorem cntAt_tree {w : World} {g : Nat} {a : Option Addr} {t : Tr} (hg : Blk w g 70 #[.pointer a]) (h : Tree w S a t) : cntAt w g = t.size := by
  have h0 := hg.cell (j := 0) (u := .pointer a) rfl
  unfold cntAt
  rw [h0]
  cases t with
  | nil =>
    have h : a = none := h
    subst h
    rfl
  | node nw L x R =>
    obtain ⟨b, al, ah, rfl, h1, -, -, -, -⟩ := h
    have h7 := h1.cell (j := 7) (u := .int .i64 ((L.size + R.size + 1 : Nat) : Int)) rfl
    simp only [h7]
    simp only [Tr.size]
    omega
/-- What has answers. -/
def HasAns (w : World) (bn : Nat) (a : Option Addr) (t : Tr) (e : Ending) (w' : World) : Prop := ∃ r, e = .returned (.bool r) ∧ (Nd w bn a t → r = true) ∧ (t = .nil → r = false) ∧ Below w.heap.size w w'
theorem size_node : (Try.prog.info? 80).map (·.size) = some 8 := by kernel_rfl
theorem eql_node_same (a : Addr) (w : World) : (binOp .eql 68 (.pointer (some a)) (.pointer (some a))).run Try.prog w = .ok (.bool true) w := by
  obtain ⟨j, hj, _⟩ := Option.map_eq_some_iff.1 size_node
  exact run_eql_ptr_same w a Try.underlying68 hj
theorem eql_node_other {a b : Nat} {w : World} {t t' : TypeId} {ca cb : Array Value} (hne : a ≠ b) (ha : Blk w a t ca) (hb : Blk w b t' cb) : (binOp .eql 68 (.pointer (some ⟨a, 0, none⟩)) (.pointer (some ⟨b, 0, none⟩))).run Try.prog w = .ok (.bool false) w := by
  obtain ⟨j, hj, hs⟩ := Option.map_eq_some_iff.1 size_node
  exact run_eql_ptr_other w Try.underlying68 hj (by omega) (fun e => hne (by injection e)) ha hb
theorem eql_node_none (a : Addr) (w : World) : (binOp .eql 68 (.pointer none) (.pointer (some a))).run Try.prog w = .ok (.bool false) w := by
  have h : ∀ d : Nat, (Op.equalIn (d + 1) 68 (.pointer none) (.pointer (some a))).run Try.prog w = .ok false w := fun d => by
    simp [Op.equalIn, run_underlying Try.underlying68]
  simp only [binOp]
  simp [Op.equal, Op.maxDepth, h 9999]
set_option maxRecDepth 100000 in
set_option maxHeartbeats 4000000 in
theorem has_ (bn : Nat) (xn : Ext) (an ah : Option Addr) (d s : Nat) (t : Tr) (a : Option Addr) (w : World) (hT : Tree w S a t) (hl : listFrom 0 t.list = true) (hn : Blk w bn 80 (nd xn an ah d s)) :
    Calls Try.prog 58 #[.agg #[.pointer a], .pointer (some ⟨bn, 0, none⟩)] w (HasAns w bn a t) := by
  obtain ⟨w1, hw1⟩ : ∃ w1, w1 = w.alloc (.cells #[.pointer a] 70) := ⟨_, rfl⟩
  have b1 : Blk w1 w.heap.size 70 #[.pointer a] := by rw [hw1]; exact Blk.new _ _ _ rfl
  have hB1 : Below w.heap.size w w1 := by rw [hw1]; exact (Below.refl _ _).alloc (Nat.le_refl _) _
  have t1 := hT.below hB1
  have hlt1 := b1.lt
  have n0 := hn
  have hlbn := hn.lt
  clear hT
  generalize hg : w.heap.size = g at *
  go_enter Try.func58, Try.ntmps58
  go_wp2_with fail
  rw [← hw1]
  clear hw1
  go_loopw [5] (fun _ wr => ∃ (cur : Option Addr) (t' : Tr) (lo : Int), Blk wr g 70 #[.pointer cur] ∧ Tree wr S cur t' ∧ listFrom lo t'.list = true ∧ (Nd w bn a t → Nd wr bn cur t') ∧ (t = .nil → t' = .nil) ∧ Tn g (g + 1) w1 wr) (fun _ wr => cntAt wr g)
  case atStart => exact ⟨a, t, 0, b1, t1, hl, fun h => h.below (by rw [hg]; exact hB1), id, Tn.refl _ _ _⟩
  case round =>
    obtain ⟨cur, t', lo, hb, hT', hl', hN, hnil, hF⟩ := hrel
    have hwr : Below g w wr := hB1.trans (hF.below (Nat.le_refl _) (by have := hB1.size; omega))
    have nr := hn.below hwr (by omega)
    have hcnt := cntAt_tree S hb hT'
    have hglt := hb.lt
    cases t' with
    | nil =>
      have hc : cur = none := hT'
      subst hc
      have HN := Lib.hid (show ¬ Nd w bn a t from fun h => hN h)
      have q := fun W => eql_node_none ⟨bn, 0, none⟩ W
      clear hN hT' t1 b1
      go_wp2_with fail
      refine wp_region_noPanic ?_
      refine wp_region_held_drew (S := (fun w' => w'.cell? ⟨g, 0, none⟩ = some (.pointer none))) (by kernel_rfl) (hb.cell rfl) (fun _ => ?_)
      refine wpAnyH_take (i := 0) (oi := _) (v := ?_) rfl (by kernel_rfl) (by kernel_rfl) (by kernel_rfl) (fun _ _ _ h => h) (Or.inl ⟨by kernel_rfl, ?_⟩) (hb.cell rfl) ?_
      rotate_left
      · (rintro w s0; go_simp; (first | done | rfl))
      try simp only [Act.put, List.getElem_toArray, List.getElem_cons_zero, List.getElem_cons_succ, List.setIfInBounds_toArray, List.set_cons_zero, List.set_cons_succ]
      refine wpAnyH_take (i := 1) (oi := _) (v := ?_) rfl (by kernel_rfl) (by kernel_rfl) (by kernel_rfl) (fun _ _ _ h => h) (Or.inl ⟨by kernel_rfl, ?_⟩) (hb.cell rfl) ?_
      rotate_left
      · (rintro w s0; go_simp; (first | done | rfl))
      try simp only [Act.put, List.getElem_toArray, List.getElem_cons_zero, List.getElem_cons_succ, List.setIfInBounds_toArray, List.set_cons_zero, List.set_cons_succ]
      refine wpAnyH_take (i := 2) (oi := _) (v := ?_) rfl (by kernel_rfl) (by kernel_rfl) (by kernel_rfl) (fun _ _ _ h => h) (Or.inl ⟨by kernel_rfl, ?_⟩) (hb.cell rfl) ?_
      rotate_left
      · (rintro w s0; go_simp; (first | done | rfl))
      try simp only [Act.put, List.getElem_toArray, List.getElem_cons_zero, List.getElem_cons_succ, List.setIfInBounds_toArray, List.set_cons_zero, List.set_cons_succ]
      refine wpAnyH_take (i := 3) (oi := _) (v := ?_) rfl (by kernel_rfl) (by kernel_rfl) (by kernel_rfl) (fun _ _ _ h => h) (Or.inl ⟨by kernel_rfl, ?_⟩) (hb.cell rfl) ?_
      rotate_left
      · (rintro w s0; go_simp; (first | done | rfl))
      try simp only [Act.put, List.getElem_toArray, List.getElem_cons_zero, List.getElem_cons_succ, List.setIfInBounds_toArray, List.set_cons_zero, List.set_cons_succ]
      refine wpAnyH_take (i := 4) (oi := _) (v := undef) rfl (by kernel_rfl) (by kernel_rfl) (by kernel_rfl) (fun _ _ _ h => h) (Or.inr ⟨by kernel_rfl, rfl⟩) (hb.cell rfl) ?_
      try simp only [Act.put, List.getElem_toArray, List.getElem_cons_zero, List.getElem_cons_succ, List.setIfInBounds_toArray, List.set_cons_zero, List.set_cons_succ]
      refine wpAnyH_take (i := 5) (oi := _) (v := undef) rfl (by kernel_rfl) (by kernel_rfl) (by kernel_rfl) (fun _ _ _ h => h) (Or.inr ⟨by kernel_rfl, rfl⟩) (hb.cell rfl) ?_
      try simp only [Act.put, List.getElem_toArray, List.getElem_cons_zero, List.getElem_cons_succ, List.setIfInBounds_toArray, List.set_cons_zero, List.set_cons_succ]
      refine wpAnyH_take (i := 6) (oi := _) (v := undef) rfl (by kernel_rfl) (by kernel_rfl) (by kernel_rfl) (fun _ _ _ h => h) (Or.inr ⟨by kernel_rfl, rfl⟩) (hb.cell rfl) ?_
      try simp only [Act.put, List.getElem_toArray, List.getElem_cons_zero, List.getElem_cons_succ, List.setIfInBounds_toArray, List.set_cons_zero, List.set_cons_succ]
      refine wpAnyH_take (i := 7) (oi := _) (v := undef) rfl (by kernel_rfl) (by kernel_rfl) (by kernel_rfl) (fun _ _ _ h => h) (Or.inr ⟨by kernel_rfl, rfl⟩) (hb.cell rfl) ?_
      try simp only [Act.put, List.getElem_toArray, List.getElem_cons_zero, List.getElem_cons_succ, List.setIfInBounds_toArray, List.set_cons_zero, List.set_cons_succ]
      refine wpAnyH_take (i := 8) (oi := _) (v := undef) rfl (by kernel_rfl) (by kernel_rfl) (by kernel_rfl) (fun _ _ _ h => h) (Or.inr ⟨by kernel_rfl, rfl⟩) (hb.cell rfl) ?_
      try simp only [Act.put, List.getElem_toArray, List.getElem_cons_zero, List.getElem_cons_succ, List.setIfInBounds_toArray, List.set_cons_zero, List.set_cons_succ]
      refine wpAnyH_take (i := 9) (oi := _) (v := undef) rfl (by kernel_rfl) (by kernel_rfl) (by kernel_rfl) (fun _ _ _ h => h) (Or.inr ⟨by kernel_rfl, rfl⟩) (hb.cell rfl) ?_
      try simp only [Act.put, List.getElem_toArray, List.getElem_cons_zero, List.getElem_cons_succ, List.setIfInBounds_toArray, List.set_cons_zero, List.set_cons_succ]
      refine wpAnyH_take (i := 10) (oi := _) (v := undef) rfl (by kernel_rfl) (by kernel_rfl) (by kernel_rfl) (fun _ _ _ h => h) (Or.inr ⟨by kernel_rfl, rfl⟩) (hb.cell rfl) ?_
      try simp only [Act.put, List.getElem_toArray, List.getElem_cons_zero, List.getElem_cons_succ, List.setIfInBounds_toArray, List.set_cons_zero, List.set_cons_succ]
      refine wpAnyH_take (i := 11) (oi := _) (v := undef) rfl (by kernel_rfl) (by kernel_rfl) (by kernel_rfl) (fun _ _ _ h => h) (Or.inr ⟨by kernel_rfl, rfl⟩) (hb.cell rfl) ?_
      try simp only [Act.put, List.getElem_toArray, List.getElem_cons_zero, List.getElem_cons_succ, List.setIfInBounds_toArray, List.set_cons_zero, List.set_cons_succ]
      refine wpAnyH_take (i := 12) (oi := _) (v := undef) rfl (by kernel_rfl) (by kernel_rfl) (by kernel_rfl) (fun _ _ _ h => h) (Or.inr ⟨by kernel_rfl, rfl⟩) (hb.cell rfl) ?_
      try simp only [Act.put, List.getElem_toArray, List.getElem_cons_zero, List.getElem_cons_succ, List.setIfInBounds_toArray, List.set_cons_zero, List.set_cons_succ]
      refine wpAnyH_take (i := 13) (oi := _) (v := undef) rfl (by kernel_rfl) (by kernel_rfl) (by kernel_rfl) (fun _ _ _ h => h) (Or.inr ⟨by kernel_rfl, rfl⟩) (hb.cell rfl) ?_
      try simp only [Act.put, List.getElem_toArray, List.getElem_cons_zero, List.getElem_cons_succ, List.setIfInBounds_toArray, List.set_cons_zero, List.set_cons_succ]
      refine wpAnyH_take (i := 14) (oi := _) (v := undef) rfl (by kernel_rfl) (by kernel_rfl) (by kernel_rfl) (fun _ _ _ h => h) (Or.inr ⟨by kernel_rfl, rfl⟩) (hb.cell rfl) ?_
      try simp only [Act.put, List.getElem_toArray, List.getElem_cons_zero, List.getElem_cons_succ, List.setIfInBounds_toArray, List.set_cons_zero, List.set_cons_succ]
      refine wpAnyH_take (i := 15) (oi := _) (v := undef) rfl (by kernel_rfl) (by kernel_rfl) (by kernel_rfl) (fun _ _ _ h => h) (Or.inr ⟨by kernel_rfl, rfl⟩) (hb.cell rfl) ?_
      try simp only [Act.put, List.getElem_toArray, List.getElem_cons_zero, List.getElem_cons_succ, List.setIfInBounds_toArray, List.set_cons_zero, List.set_cons_succ]
      refine wpAnyH_take (i := 16) (oi := _) (v := ?_) rfl (by kernel_rfl) (by kernel_rfl) (by kernel_rfl) (fun _ _ _ h => h) (Or.inl ⟨by kernel_rfl, ?_⟩) (hb.cell rfl) ?_
      rotate_left
      · (rintro w s0; go_simp; (first | done | rfl))
      try simp only [Act.put, List.getElem_toArray, List.getElem_cons_zero, List.getElem_cons_succ, List.setIfInBounds_toArray, List.set_cons_zero, List.set_cons_succ]
      refine wpAnyH_done (by kernel_rfl) ?_ _
      refine NoPanic.normal ?_
      have e0 := hb.cell (j := 0) (u := .pointer none) rfl
      go_wp2
      go_ret
      subst hg
      exact ⟨false, rfl, fun h => (HN.out h).elim, fun _ => rfl, hwr.drew⟩
    | node nw L kx R =>
      obtain ⟨l1, l2, l3, l4, l5⟩ := listFrom_mid (show listFrom lo (L.list ++ kx :: R.list) = true from hl')
      have hnil' : ¬ t = .nil := fun h => by cases hnil h
      have hkl := may_len l3
      have hT0 := hT'
      obtain ⟨bl, aL, aR, rfl, hbl, fkx, -, hL, hR⟩ := hT'
      have hnd : Nd w bn a t → bn = bl ∨ Nd wr bn aL L ∨ Nd wr bn aR R := fun h => by
        obtain ⟨b0, al, ah', e, k1, h2⟩ := hN h
        injection e with e
        injection e with e
        subst e
        obtain ⟨-, rfl, rfl⟩ := nd_inj (blk_inj hbl k1)
        exact h2
      have hoff : ∀ {T : Tr} {b : Option Addr}, Tree wr S b T → Nd wr bn b T → ∃ y ∈ T.list, y.off = xn.off := fun hT2 hN2 => by
        obtain ⟨y, hy, _, _, _, _, hk⟩ := nd_off hT2 hN2
        exact ⟨y, hy, (nd_inj (blk_inj hk nr)).1⟩
      clear hN t1 b1 hnil hl'
      by_cases ho : kx.off = xn.off
      · have hd0 : (kx.off != xn.off) = false := by simp [ho]
        have hr : Nd w bn a t → bn = bl := fun h => by
          rcases hnd h with h | h | h
          · exact h
          · obtain ⟨y, hy, e⟩ := hoff hL h
            have := l2 y hy
            have h3 := listFrom_mem l1 y hy
            have := may_len h3.1
            omega
          · obtain ⟨y, hy, e⟩ := hoff hR h
            have := listFrom_mem l5 y hy
            omega
        have Hr := Lib.hid hr
        clear hr ho hnd hoff
        go_wp2_with fail
        refine wp_region_noPanic ?_
        refine wp_region_held_drew (S := (fun w' => w'.cell? ⟨g, 0, none⟩ = some (.pointer (some ⟨bl, 0, none⟩)) ∧ w'.cell? ⟨bl, 0, none⟩ = some (.int .i64 kx.off) ∧ w'.cell? ⟨bn, 0, none⟩ = some (.int .i64 xn.off))) (by kernel_rfl) ⟨hb.cell rfl, hbl.cell rfl, nr.cell rfl⟩ (fun _ => ?_)
        refine wpAnyH_take (i := 0) (oi := _) (v := ?_) rfl (by kernel_rfl) (by kernel_rfl) (by kernel_rfl) (fun _ _ _ h => h) (Or.inl ⟨by kernel_rfl, ?_⟩) ⟨hb.cell rfl, hbl.cell rfl, nr.cell rfl⟩ ?_
        rotate_left
        · (rintro w ⟨s0, s1, s2⟩; go_simp; (first | done | rfl))
        try simp only [Act.put, List.getElem_toArray, List.getElem_cons_zero, List.getElem_cons_succ, List.setIfInBounds_toArray, List.set_cons_zero, List.set_cons_succ]
        refine wpAnyH_take (i := 1) (oi := _) (v := ?_) rfl (by kernel_rfl) (by kernel_rfl) (by kernel_rfl) (fun _ _ _ h => h) (Or.inl ⟨by kernel_rfl, ?_⟩) ⟨hb.cell rfl, hbl.cell rfl, nr.cell rfl⟩ ?_
        rotate_left
        · (rintro w ⟨s0, s1, s2⟩; go_simp; (first | done | rfl))
        try simp only [Act.put, List.getElem_toArray, List.getElem_cons_zero, List.getElem_cons_succ, List.setIfInBounds_toArray, List.set_cons_zero, List.set_cons_succ]
        refine wpAnyH_take (i := 2) (oi := _) (v := ?_) rfl (by kernel_rfl) (by kernel_rfl) (by kernel_rfl) (fun _ _ _ h => h) (Or.inl ⟨by kernel_rfl, ?_⟩) ⟨hb.cell rfl, hbl.cell rfl, nr.cell rfl⟩ ?_
        rotate_left
        · (rintro w ⟨s0, s1, s2⟩; go_simp; (first | done | rfl))
        try simp only [Act.put, List.getElem_toArray, List.getElem_cons_zero, List.getElem_cons_succ, List.setIfInBounds_toArray, List.set_cons_zero, List.set_cons_succ]
        refine wpAnyH_take (i := 3) (oi := _) (v := ?_) rfl (by kernel_rfl) (by kernel_rfl) (by kernel_rfl) (fun _ _ _ h => h) (Or.inl ⟨by kernel_rfl, ?_⟩) ⟨hb.cell rfl, hbl.cell rfl, nr.cell rfl⟩ ?_
        rotate_left
        · (rintro w ⟨s0, s1, s2⟩; go_simp; (first | done | rfl))
        try simp only [Act.put, List.getElem_toArray, List.getElem_cons_zero, List.getElem_cons_succ, List.setIfInBounds_toArray, List.set_cons_zero, List.set_cons_succ]
        refine wpAnyH_take (i := 4) (oi := _) (v := ?_) rfl (by kernel_rfl) (by kernel_rfl) (by kernel_rfl) (fun _ _ _ h => h) (Or.inl ⟨by kernel_rfl, ?_⟩) ⟨hb.cell rfl, hbl.cell rfl, nr.cell rfl⟩ ?_
        rotate_left
        · (rintro w ⟨s0, s1, s2⟩; go_simp; (first | done | rfl))
        try simp only [Act.put, List.getElem_toArray, List.getElem_cons_zero, List.getElem_cons_succ, List.setIfInBounds_toArray, List.set_cons_zero, List.set_cons_succ]
        refine wpAnyH_take (i := 5) (oi := _) (v := ?_) rfl (by kernel_rfl) (by kernel_rfl) (by kernel_rfl) (fun _ _ _ h => h) (Or.inl ⟨by kernel_rfl, ?_⟩) ⟨hb.cell rfl, hbl.cell rfl, nr.cell rfl⟩ ?_
        rotate_left
        · (rintro w ⟨s0, s1, s2⟩; go_simp; (first | done | rfl))
        try simp only [Act.put, List.getElem_toArray, List.getElem_cons_zero, List.getElem_cons_succ, List.setIfInBounds_toArray, List.set_cons_zero, List.set_cons_succ]
        refine wpAnyH_take (i := 6) (oi := _) (v := ?_) rfl (by kernel_rfl) (by kernel_rfl) (by kernel_rfl) (fun _ _ _ h => h) (Or.inl ⟨by kernel_rfl, ?_⟩) ⟨hb.cell rfl, hbl.cell rfl, nr.cell rfl⟩ ?_
        rotate_left
        · (rintro w ⟨s0, s1, s2⟩; go_simp; (first | done | rfl))
        try simp only [Act.put, List.getElem_toArray, List.getElem_cons_zero, List.getElem_cons_succ, List.setIfInBounds_toArray, List.set_cons_zero, List.set_cons_succ]
        refine wpAnyH_take (i := 7) (oi := _) (v := ?_) rfl (by kernel_rfl) (by kernel_rfl) (by kernel_rfl) (fun _ _ _ h => h) (Or.inl ⟨by kernel_rfl, ?_⟩) ⟨hb.cell rfl, hbl.cell rfl, nr.cell rfl⟩ ?_
        rotate_left
        · (rintro w ⟨s0, s1, s2⟩; go_simp; (first | done | rfl))
        try simp only [Act.put, List.getElem_toArray, List.getElem_cons_zero, List.getElem_cons_succ, List.setIfInBounds_toArray, List.set_cons_zero, List.set_cons_succ]
        refine wpAnyH_take (i := 8) (oi := _) (v := ?_) rfl (by kernel_rfl) (by kernel_rfl) (by kernel_rfl) (fun _ _ _ h => h) (Or.inl ⟨by kernel_rfl, ?_⟩) ⟨hb.cell rfl, hbl.cell rfl, nr.cell rfl⟩ ?_
        rotate_left
        · (rintro w ⟨s0, s1, s2⟩; go_simp; (first | done | rfl))
        try simp only [Act.put, List.getElem_toArray, List.getElem_cons_zero, List.getElem_cons_succ, List.setIfInBounds_toArray, List.set_cons_zero, List.set_cons_succ]
        refine wpAnyH_take (i := 9) (oi := _) (v := ?_) rfl (by kernel_rfl) (by kernel_rfl) (by kernel_rfl) (fun _ _ _ h => h) (Or.inl ⟨by kernel_rfl, ?_⟩) ⟨hb.cell rfl, hbl.cell rfl, nr.cell rfl⟩ ?_
        rotate_left
        · (rintro w ⟨s0, s1, s2⟩; go_simp; (first | done | rfl))
        try simp only [Act.put, List.getElem_toArray, List.getElem_cons_zero, List.getElem_cons_succ, List.setIfInBounds_toArray, List.set_cons_zero, List.set_cons_succ]
        refine wpAnyH_take (i := 10) (oi := _) (v := ?_) rfl (by kernel_rfl) (by kernel_rfl) (by kernel_rfl) (fun _ _ _ h => h) (Or.inl ⟨by kernel_rfl, ?_⟩) ⟨hb.cell rfl, hbl.cell rfl, nr.cell rfl⟩ ?_
        rotate_left
        · (rintro w ⟨s0, s1, s2⟩; go_simp; (first | done | rfl))
        try simp only [Act.put, List.getElem_toArray, List.getElem_cons_zero, List.getElem_cons_succ, List.setIfInBounds_toArray, List.set_cons_zero, List.set_cons_succ]
        refine wpAnyH_take (i := 11) (oi := _) (v := ?_) rfl (by kernel_rfl) (by kernel_rfl) (by kernel_rfl) (fun _ _ _ h => h) (Or.inl ⟨by kernel_rfl, ?_⟩) ⟨hb.cell rfl, hbl.cell rfl, nr.cell rfl⟩ ?_
        rotate_left
        · (rintro w ⟨s0, s1, s2⟩; go_simp; (first | done | rfl))
        try simp only [Act.put, List.getElem_toArray, List.getElem_cons_zero, List.getElem_cons_succ, List.setIfInBounds_toArray, List.set_cons_zero, List.set_cons_succ]
        refine wpAnyH_take (i := 12) (oi := _) (v := ?_) rfl (by kernel_rfl) (by kernel_rfl) (by kernel_rfl) (fun _ _ _ h => h) (Or.inl ⟨by kernel_rfl, ?_⟩) ⟨hb.cell rfl, hbl.cell rfl, nr.cell rfl⟩ ?_
        rotate_left
        · (rintro w ⟨s0, s1, s2⟩; go_simp; (first | done | rfl))
        try simp only [Act.put, List.getElem_toArray, List.getElem_cons_zero, List.getElem_cons_succ, List.setIfInBounds_toArray, List.set_cons_zero, List.set_cons_succ]
        refine wpAnyH_take (i := 13) (oi := _) (v := ?_) rfl (by kernel_rfl) (by kernel_rfl) (by kernel_rfl) (fun _ _ _ h => h) (Or.inl ⟨by kernel_rfl, ?_⟩) ⟨hb.cell rfl, hbl.cell rfl, nr.cell rfl⟩ ?_
        rotate_left
        · (rintro w ⟨s0, s1, s2⟩; go_simp; (first | done | rfl))
        try simp only [Act.put, List.getElem_toArray, List.getElem_cons_zero, List.getElem_cons_succ, List.setIfInBounds_toArray, List.set_cons_zero, List.set_cons_succ]
        refine wpAnyH_take (i := 14) (oi := _) (v := ?_) rfl (by kernel_rfl) (by kernel_rfl) (by kernel_rfl) (fun _ _ _ h => h) (Or.inl ⟨by kernel_rfl, ?_⟩) ⟨hb.cell rfl, hbl.cell rfl, nr.cell rfl⟩ ?_
        rotate_left
        · (rintro w ⟨s0, s1, s2⟩; go_simp; (first | done | rfl))
        try simp only [Act.put, List.getElem_toArray, List.getElem_cons_zero, List.getElem_cons_succ, List.setIfInBounds_toArray, List.set_cons_zero, List.set_cons_succ]
        refine wpAnyH_take (i := 15) (oi := _) (v := ?_) rfl (by kernel_rfl) (by kernel_rfl) (by kernel_rfl) (fun _ _ _ h => h) (Or.inl ⟨by kernel_rfl, ?_⟩) ⟨hb.cell rfl, hbl.cell rfl, nr.cell rfl⟩ ?_
        rotate_left
        · (rintro w ⟨s0, s1, s2⟩; go_simp; (first | done | rfl))
        try simp only [Act.put, List.getElem_toArray, List.getElem_cons_zero, List.getElem_cons_succ, List.setIfInBounds_toArray, List.set_cons_zero, List.set_cons_succ]
        refine wpAnyH_take (i := 16) (oi := _) (v := ?_) rfl (by kernel_rfl) (by kernel_rfl) (by kernel_rfl) (fun _ _ _ h => h) (Or.inl ⟨by kernel_rfl, ?_⟩) ⟨hb.cell rfl, hbl.cell rfl, nr.cell rfl⟩ ?_
        rotate_left
        · (rintro w ⟨s0, s1, s2⟩; go_simp; (first | done | rfl))
        try simp only [Act.put, List.getElem_toArray, List.getElem_cons_zero, List.getElem_cons_succ, List.setIfInBounds_toArray, List.set_cons_zero, List.set_cons_succ]
        refine wpAnyH_done (by kernel_rfl) ?_ _
        refine NoPanic.normal ?_
        have e0 := hb.cell (j := 0) (u := .pointer (some ⟨bl, 0, none⟩)) rfl
        by_cases hbb : bl = bn
        · subst hbb
          have q := fun W => eql_node_same ⟨bl, 0, none⟩ W
          go_wp2
          go_ret
          subst hg
          exact ⟨true, rfl, fun _ => rfl, fun h => (hnil' h).elim, hwr.drew⟩
        · have q := eql_node_other hbb (show Blk wr.drew _ _ _ from hbl) (show Blk wr.drew _ _ _ from nr)
          go_wp2
          go_ret
          subst hg
          exact ⟨false, rfl, fun h => (hbb (Hr.out h).symm).elim, fun h => (hnil' h).elim, hwr.drew⟩
      · have hd0 : (kx.off != xn.off) = true := by simp [ho]
        have hne : ¬ bn = bl := fun e => by subst e; exact ho (nd_inj (blk_inj hbl nr)).1
        by_cases hlt : xn.off < kx.off
        · have hr : Nd w bn a t → Nd wr bn aL L := fun h => by
            rcases hnd h with h | h | h
            · exact (hne h).elim
            · exact h
            · obtain ⟨y, hy, e⟩ := hoff hR h
              have := listFrom_mem l5 y hy
              omega
          have Hr := Lib.hid hr
          have Hlt := Lib.hid hlt
          clear hr ho hnd hoff hne hlt
          go_wp2_with fail
          refine wp_region_noPanic ?_
          refine wp_region_held_drew (S := (fun w' => w'.cell? ⟨g, 0, none⟩ = some (.pointer (some ⟨bl, 0, none⟩)) ∧ w'.cell? ⟨bl, 0, none⟩ = some (.int .i64 kx.off) ∧ w'.cell? ⟨bn, 0, none⟩ = some (.int .i64 xn.off))) (by kernel_rfl) ⟨hb.cell rfl, hbl.cell rfl, nr.cell rfl⟩ (fun _ => ?_)
          refine wpAnyH_take (i := 0) (oi := _) (v := ?_) rfl (by kernel_rfl) (by kernel_rfl) (by kernel_rfl) (fun _ _ _ h => h) (Or.inl ⟨by kernel_rfl, ?_⟩) ⟨hb.cell rfl, hbl.cell rfl, nr.cell rfl⟩ ?_
          rotate_left
          · (rintro w ⟨s0, s1, s2⟩; go_simp; (first | done | rfl))
          try simp only [Act.put, List.getElem_toArray, List.getElem_cons_zero, List.getElem_cons_succ, List.setIfInBounds_toArray, List.set_cons_zero, List.set_cons_succ]
          refine wpAnyH_take (i := 1) (oi := _) (v := ?_) rfl (by kernel_rfl) (by kernel_rfl) (by kernel_rfl) (fun _ _ _ h => h) (Or.inl ⟨by kernel_rfl, ?_⟩) ⟨hb.cell rfl, hbl.cell rfl, nr.cell rfl⟩ ?_
          rotate_left
          · (rintro w ⟨s0, s1, s2⟩; go_simp; (first | done | rfl))
          try simp only [Act.put, List.getElem_toArray, List.getElem_cons_zero, List.getElem_cons_succ, List.setIfInBounds_toArray, List.set_cons_zero, List.set_cons_succ]
          refine wpAnyH_take (i := 2) (oi := _) (v := ?_) rfl (by kernel_rfl) (by kernel_rfl) (by kernel_rfl) (fun _ _ _ h => h) (Or.inl ⟨by kernel_rfl, ?_⟩) ⟨hb.cell rfl, hbl.cell rfl, nr.cell rfl⟩ ?_
          rotate_left
          · (rintro w ⟨s0, s1, s2⟩; go_simp; (first | done | rfl))
          try simp only [Act.put, List.getElem_toArray, List.getElem_cons_zero, List.getElem_cons_succ, List.setIfInBounds_toArray, List.set_cons_zero, List.set_cons_succ]
          refine wpAnyH_take (i := 3) (oi := _) (v := ?_) rfl (by kernel_rfl) (by kernel_rfl) (by kernel_rfl) (fun _ _ _ h => h) (Or.inl ⟨by kernel_rfl, ?_⟩) ⟨hb.cell rfl, hbl.cell rfl, nr.cell rfl⟩ ?_
          rotate_left
          · (rintro w ⟨s0, s1, s2⟩; go_simp; (first | done | rfl))
          try simp only [Act.put, List.getElem_toArray, List.getElem_cons_zero, List.getElem_cons_succ, List.setIfInBounds_toArray, List.set_cons_zero, List.set_cons_succ]
          refine wpAnyH_take (i := 4) (oi := _) (v := ?_) rfl (by kernel_rfl) (by kernel_rfl) (by kernel_rfl) (fun _ _ _ h => h) (Or.inl ⟨by kernel_rfl, ?_⟩) ⟨hb.cell rfl, hbl.cell rfl, nr.cell rfl⟩ ?_
          rotate_left
          · (rintro w ⟨s0, s1, s2⟩; go_simp; (first | done | rfl))
          try simp only [Act.put, List.getElem_toArray, List.getElem_cons_zero, List.getElem_cons_succ, List.setIfInBounds_toArray, List.set_cons_zero, List.set_cons_succ]
          refine wpAnyH_take (i := 5) (oi := _) (v := ?_) rfl (by kernel_rfl) (by kernel_rfl) (by kernel_rfl) (fun _ _ _ h => h) (Or.inl ⟨by kernel_rfl, ?_⟩) ⟨hb.cell rfl, hbl.cell rfl, nr.cell rfl⟩ ?_
          rotate_left
          · (rintro w ⟨s0, s1, s2⟩; go_simp; (first | done | rfl))
          try simp only [Act.put, List.getElem_toArray, List.getElem_cons_zero, List.getElem_cons_succ, List.setIfInBounds_toArray, List.set_cons_zero, List.set_cons_succ]
          refine wpAnyH_take (i := 6) (oi := _) (v := ?_) rfl (by kernel_rfl) (by kernel_rfl) (by kernel_rfl) (fun _ _ _ h => h) (Or.inl ⟨by kernel_rfl, ?_⟩) ⟨hb.cell rfl, hbl.cell rfl, nr.cell rfl⟩ ?_
          rotate_left
          · (rintro w ⟨s0, s1, s2⟩; go_simp; (first | done | rfl))
          try simp only [Act.put, List.getElem_toArray, List.getElem_cons_zero, List.getElem_cons_succ, List.setIfInBounds_toArray, List.set_cons_zero, List.set_cons_succ]
          refine wpAnyH_take (i := 7) (oi := _) (v := ?_) rfl (by kernel_rfl) (by kernel_rfl) (by kernel_rfl) (fun _ _ _ h => h) (Or.inl ⟨by kernel_rfl, ?_⟩) ⟨hb.cell rfl, hbl.cell rfl, nr.cell rfl⟩ ?_
          rotate_left
          · (rintro w ⟨s0, s1, s2⟩; go_simp; (first | done | rfl))
          try simp only [Act.put, List.getElem_toArray, List.getElem_cons_zero, List.getElem_cons_succ, List.setIfInBounds_toArray, List.set_cons_zero, List.set_cons_succ]
          refine wpAnyH_take (i := 8) (oi := _) (v := ?_) rfl (by kernel_rfl) (by kernel_rfl) (by kernel_rfl) (fun _ _ _ h => h) (Or.inl ⟨by kernel_rfl, ?_⟩) ⟨hb.cell rfl, hbl.cell rfl, nr.cell rfl⟩ ?_
          rotate_left
          · (rintro w ⟨s0, s1, s2⟩; go_simp; (first | done | rfl))
          try simp only [Act.put, List.getElem_toArray, List.getElem_cons_zero, List.getElem_cons_succ, List.setIfInBounds_toArray, List.set_cons_zero, List.set_cons_succ]
          refine wpAnyH_take (i := 9) (oi := _) (v := ?_) rfl (by kernel_rfl) (by kernel_rfl) (by kernel_rfl) (fun _ _ _ h => h) (Or.inl ⟨by kernel_rfl, ?_⟩) ⟨hb.cell rfl, hbl.cell rfl, nr.cell rfl⟩ ?_
          rotate_left
          · (rintro w ⟨s0, s1, s2⟩; go_simp; (first | done | rfl))
          try simp only [Act.put, List.getElem_toArray, List.getElem_cons_zero, List.getElem_cons_succ, List.setIfInBounds_toArray, List.set_cons_zero, List.set_cons_succ]
          refine wpAnyH_take (i := 10) (oi := _) (v := ?_) rfl (by kernel_rfl) (by kernel_rfl) (by kernel_rfl) (fun _ _ _ h => h) (Or.inl ⟨by kernel_rfl, ?_⟩) ⟨hb.cell rfl, hbl.cell rfl, nr.cell rfl⟩ ?_
          rotate_left
          · (rintro w ⟨s0, s1, s2⟩; go_simp; (first | done | rfl))
          try simp only [Act.put, List.getElem_toArray, List.getElem_cons_zero, List.getElem_cons_succ, List.setIfInBounds_toArray, List.set_cons_zero, List.set_cons_succ]
          refine wpAnyH_take (i := 11) (oi := _) (v := ?_) rfl (by kernel_rfl) (by kernel_rfl) (by kernel_rfl) (fun _ _ _ h => h) (Or.inl ⟨by kernel_rfl, ?_⟩) ⟨hb.cell rfl, hbl.cell rfl, nr.cell rfl⟩ ?_
          rotate_left
          · (rintro w ⟨s0, s1, s2⟩; go_simp; (first | done | rfl))
          try simp only [Act.put, List.getElem_toArray, List.getElem_cons_zero, List.getElem_cons_succ, List.setIfInBounds_toArray, List.set_cons_zero, List.set_cons_succ]
          refine wpAnyH_take (i := 12) (oi := _) (v := ?_) rfl (by kernel_rfl) (by kernel_rfl) (by kernel_rfl) (fun _ _ _ h => h) (Or.inl ⟨by kernel_rfl, ?_⟩) ⟨hb.cell rfl, hbl.cell rfl, nr.cell rfl⟩ ?_
          rotate_left
          · (rintro w ⟨s0, s1, s2⟩; go_simp; (first | done | rfl))
          try simp only [Act.put, List.getElem_toArray, List.getElem_cons_zero, List.getElem_cons_succ, List.setIfInBounds_toArray, List.set_cons_zero, List.set_cons_succ]
          refine wpAnyH_take (i := 13) (oi := _) (v := ?_) rfl (by kernel_rfl) (by kernel_rfl) (by kernel_rfl) (fun _ _ _ h => h) (Or.inl ⟨by kernel_rfl, ?_⟩) ⟨hb.cell rfl, hbl.cell rfl, nr.cell rfl⟩ ?_
          rotate_left
          · (rintro w ⟨s0, s1, s2⟩; go_simp; (first | done | rfl))
          try simp only [Act.put, List.getElem_toArray, List.getElem_cons_zero, List.getElem_cons_succ, List.setIfInBounds_toArray, List.set_cons_zero, List.set_cons_succ]
          refine wpAnyH_take (i := 14) (oi := _) (v := ?_) rfl (by kernel_rfl) (by kernel_rfl) (by kernel_rfl) (fun _ _ _ h => h) (Or.inl ⟨by kernel_rfl, ?_⟩) ⟨hb.cell rfl, hbl.cell rfl, nr.cell rfl⟩ ?_
          rotate_left
          · (rintro w ⟨s0, s1, s2⟩; go_simp; (first | done | rfl))
          try simp only [Act.put, List.getElem_toArray, List.getElem_cons_zero, List.getElem_cons_succ, List.setIfInBounds_toArray, List.set_cons_zero, List.set_cons_succ]
          refine wpAnyH_take (i := 15) (oi := _) (v := ?_) rfl (by kernel_rfl) (by kernel_rfl) (by kernel_rfl) (fun _ _ _ h => h) (Or.inl ⟨by kernel_rfl, ?_⟩) ⟨hb.cell rfl, hbl.cell rfl, nr.cell rfl⟩ ?_
          rotate_left
          · (rintro w ⟨s0, s1, s2⟩; go_simp; (first | done | rfl))
          try simp only [Act.put, List.getElem_toArray, List.getElem_cons_zero, List.getElem_cons_succ, List.setIfInBounds_toArray, List.set_cons_zero, List.set_cons_succ]
          refine wpAnyH_take (i := 16) (oi := _) (v := ?_) rfl (by kernel_rfl) (by kernel_rfl) (by kernel_rfl) (fun _ _ _ h => h) (Or.inl ⟨by kernel_rfl, ?_⟩) ⟨hb.cell rfl, hbl.cell rfl, nr.cell rfl⟩ ?_
          rotate_left
          · (rintro w ⟨s0, s1, s2⟩; go_simp; (first | done | rfl))
          try simp only [Act.put, List.getElem_toArray, List.getElem_cons_zero, List.getElem_cons_succ, List.setIfInBounds_toArray, List.set_cons_zero, List.set_cons_succ]
          refine wpAnyH_done (by kernel_rfl) ?_ _
          refine NoPanic.normal ?_
          go_wp2_with fail
          have g0 : wr.drew.drew.cell? ⟨g, 0, none⟩ = some (.pointer (some ⟨bl, 0, none⟩)) := hb.cell rfl
          refine wp_region_noPanic ?_
          refine wp_region_held_drew (S := (fun w' => w'.cell? ⟨bn, 0, none⟩ = some (.int .i64 xn.off))) (by kernel_rfl) (nr.cell rfl) (fun _ => ?_)
          refine wpAnyH_take (i := 1) (oi := _) (v := ?_) rfl (by kernel_rfl) (by kernel_rfl) (by kernel_rfl) (fun _ _ _ h => h) (Or.inl ⟨by kernel_rfl, ?_⟩) (nr.cell rfl) ?_
          rotate_left
          · (rintro w s0; go_simp; (first | done | rfl))
          try simp only [Act.put, List.getElem_toArray, List.getElem_cons_zero, List.getElem_cons_succ, List.setIfInBounds_toArray, List.set_cons_zero, List.set_cons_succ]
          refine wpAnyH_take (i := 2) (oi := _) (v := ?_) rfl (by kernel_rfl) (by kernel_rfl) (by kernel_rfl) (fun _ _ _ h => h) (Or.inl ⟨by kernel_rfl, ?_⟩) (nr.cell rfl) ?_
          rotate_left
          · (rintro w s0; go_simp; (first | done | rfl))
          try simp only [Act.put, List.getElem_toArray, List.getElem_cons_zero, List.getElem_cons_succ, List.setIfInBounds_toArray, List.set_cons_zero, List.set_cons_succ]
          refine wpAnyH_take (i := 3) (oi := _) (v := ?_) rfl (by kernel_rfl) (by kernel_rfl) (by kernel_rfl) (fun _ _ _ h => h) (Or.inl ⟨by kernel_rfl, ?_⟩) (nr.cell rfl) ?_
          rotate_left
          · (rintro w s0; go_simp; (first | done | rfl))
          try simp only [Act.put, List.getElem_toArray, List.getElem_cons_zero, List.getElem_cons_succ, List.setIfInBounds_toArray, List.set_cons_zero, List.set_cons_succ]
          refine wpAnyH_take (i := 4) (oi := _) (v := ?_) rfl (by kernel_rfl) (by kernel_rfl) (by kernel_rfl) (fun _ _ _ h => h) (Or.inl ⟨by kernel_rfl, ?_⟩) (nr.cell rfl) ?_
          rotate_left
          · (rintro w s0; go_simp; (first | done | rfl))
          try simp only [Act.put, List.getElem_toArray, List.getElem_cons_zero, List.getElem_cons_succ, List.setIfInBounds_toArray, List.set_cons_zero, List.set_cons_succ]
          refine wpAnyH_take (i := 5) (oi := _) (v := ?_) rfl (by kernel_rfl) (by kernel_rfl) (by kernel_rfl) (fun _ _ _ h => h) (Or.inl ⟨by kernel_rfl, ?_⟩) (nr.cell rfl) ?_
          rotate_left
          · (rintro w s0; go_simp; (first | done | rfl))
          try simp only [Act.put, List.getElem_toArray, List.getElem_cons_zero, List.getElem_cons_succ, List.setIfInBounds_toArray, List.set_cons_zero, List.set_cons_succ]
          refine wpAnyH_ready (rs := [0]) (by kernel_rfl) (by simp) (AllReadyH.cons (o := _) rfl (fun K hK => ?_) AllReadyH.nil)
          rw [if_pos (by kernel_rfl)]
          go_simp
          refine hK.out _ _ (nr.cell rfl) (fun _ => ?_)
          clear hK K
          try simp only [Act.put, List.getElem_toArray, List.getElem_cons_zero, List.getElem_cons_succ, List.setIfInBounds_toArray, List.set_cons_zero, List.set_cons_succ]
          refine wpAnyH_ready (rs := [6]) (by kernel_rfl) (by simp) (AllReadyH.cons (o := _) rfl (fun K hK => ?_) AllReadyH.nil)
          rw [if_pos (by kernel_rfl)]
          refine wp_fn 39 _ _ rfl _ rfl enters_toward (toward_lo bl aL aR kx _ _ xn.off _ (show Blk wr.drew.drew _ _ _ from hbl) Hlt.out) ?_
          rintro en w5 ⟨rfl, hb5⟩
          have hB5 : Below wr.heap.size wr w5 := below_undrew (below_undrew hb5)
          refine ⟨_, rfl, ?_⟩
          refine hK.out _ _ ((nr.keep hB5).cell rfl) (fun _ => ?_)
          clear hK K
          try simp only [Act.put, List.getElem_toArray, List.getElem_cons_zero, List.getElem_cons_succ, List.setIfInBounds_toArray, List.set_cons_zero, List.set_cons_succ]
          refine wpAnyH_ready (rs := [7]) (by kernel_rfl) (by simp) (AllReadyH.cons (o := _) rfl (fun K hK => ?_) AllReadyH.nil)
          rw [if_pos (by kernel_rfl)]
          refine wp_store_blk 70 _ _ rfl g 70 _ #[.pointer aL] (hb.keep hB5) rfl rfl rfl size_tree (one_ptr _) ?_
          intro w10 hk10 ht10
          refine hK.out _ _ ((ht10.blk (nr.keep hB5) (by omega)).cell rfl) (fun _ => ?_)
          clear hK K
          try simp only [Act.put, List.getElem_toArray, List.getElem_cons_zero, List.getElem_cons_succ, List.setIfInBounds_toArray, List.set_cons_zero, List.set_cons_succ]
          refine wpAnyH_done (by kernel_rfl) ?_ _
          refine NoPanic.normal ?_
          go_wp2
          go_roundw
          case rel => exact ⟨aL, L, lo, hk10, (hL.below hB5).var (hb.keep hB5) ht10, l1, fun h => Nd.var (hb.keep hB5) ht10 ((Hr.out h).below hB5), fun h => (hnil' h).elim, (hF.trans (Tn.ofBelow hB5 (Nat.le_refl _))).trans ht10⟩
          case measure => rw [hcnt, cntAt_tree S hk10 ((hL.below hB5).var (hb.keep hB5) ht10)]; simp only [Tr.size]; omega
        · have hr : Nd w bn a t → Nd wr bn aR R := fun h => by
            rcases hnd h with h | h | h
            · exact (hne h).elim
            · obtain ⟨y, hy, e⟩ := hoff hL h
              have := l2 y hy
              have h3 := listFrom_mem l1 y hy
              have := may_len h3.1
              omega
            · exact h
          have Hr := Lib.hid hr
          have Hlt := Lib.hid hlt
          clear hr ho hnd hoff hne hlt
          go_wp2_with fail
          refine wp_region_noPanic ?_
          refine wp_region_held_drew (S := (fun w' => w'.cell? ⟨g, 0, none⟩ = some (.pointer (some ⟨bl, 0, none⟩)) ∧ w'.cell? ⟨bl, 0, none⟩ = some (.int .i64 kx.off) ∧ w'.cell? ⟨bn, 0, none⟩ = some (.int .i64 xn.off))) (by kernel_rfl) ⟨hb.cell rfl, hbl.cell rfl, nr.cell rfl⟩ (fun _ => ?_)
          refine wpAnyH_take (i := 0) (oi := _) (v := ?_) rfl (by kernel_rfl) (by kernel_rfl) (by kernel_rfl) (fun _ _ _ h => h) (Or.inl ⟨by kernel_rfl, ?_⟩) ⟨hb.cell rfl, hbl.cell rfl, nr.cell rfl⟩ ?_
          rotate_left
          · (rintro w ⟨s0, s1, s2⟩; go_simp; (first | done | rfl))
          try simp only [Act.put, List.getElem_toArray, List.getElem_cons_zero, List.getElem_cons_succ, List.setIfInBounds_toArray, List.set_cons_zero, List.set_cons_succ]
          refine wpAnyH_take (i := 1) (oi := _) (v := ?_) rfl (by kernel_rfl) (by kernel_rfl) (by kernel_rfl) (fun _ _ _ h => h) (Or.inl ⟨by kernel_rfl, ?_⟩) ⟨hb.cell rfl, hbl.cell rfl, nr.cell rfl⟩ ?_
          rotate_left
          · (rintro w ⟨s0, s1, s2⟩; go_simp; (first | done | rfl))
          try simp only [Act.put, List.getElem_toArray, List.getElem_cons_zero, List.getElem_cons_succ, List.setIfInBounds_toArray, List.set_cons_zero, List.set_cons_succ]
          refine wpAnyH_take (i := 2) (oi := _) (v := ?_) rfl (by kernel_rfl) (by kernel_rfl) (by kernel_rfl) (fun _ _ _ h => h) (Or.inl ⟨by kernel_rfl, ?_⟩) ⟨hb.cell rfl, hbl.cell rfl, nr.cell rfl⟩ ?_
          rotate_left
          · (rintro w ⟨s0, s1, s2⟩; go_simp; (first | done | rfl))
          try simp only [Act.put, List.getElem_toArray, List.getElem_cons_zero, List.getElem_cons_succ, List.setIfInBounds_toArray, List.set_cons_zero, List.set_cons_succ]
          refine wpAnyH_take (i := 3) (oi := _) (v := ?_) rfl (by kernel_rfl) (by kernel_rfl) (by kernel_rfl) (fun _ _ _ h => h) (Or.inl ⟨by kernel_rfl, ?_⟩) ⟨hb.cell rfl, hbl.cell rfl, nr.cell rfl⟩ ?_
          rotate_left
          · (rintro w ⟨s0, s1, s2⟩; go_simp; (first | done | rfl))
          try simp only [Act.put, List.getElem_toArray, List.getElem_cons_zero, List.getElem_cons_succ, List.setIfInBounds_toArray, List.set_cons_zero, List.set_cons_succ]
          refine wpAnyH_take (i := 4) (oi := _) (v := ?_) rfl (by kernel_rfl) (by kernel_rfl) (by kernel_rfl) (fun _ _ _ h => h) (Or.inl ⟨by kernel_rfl, ?_⟩) ⟨hb.cell rfl, hbl.cell rfl, nr.cell rfl⟩ ?_
          rotate_left
          · (rintro w ⟨s0, s1, s2⟩; go_simp; (first | done | rfl))
          try simp only [Act.put, List.getElem_toArray, List.getElem_cons_zero, List.getElem_cons_succ, List.setIfInBounds_toArray, List.set_cons_zero, List.set_cons_succ]
          refine wpAnyH_take (i := 5) (oi := _) (v := ?_) rfl (by kernel_rfl) (by kernel_rfl) (by kernel_rfl) (fun _ _ _ h => h) (Or.inl ⟨by kernel_rfl, ?_⟩) ⟨hb.cell rfl, hbl.cell rfl, nr.cell rfl⟩ ?_
          rotate_left
          · (rintro w ⟨s0, s1, s2⟩; go_simp; (first | done | rfl))
          try simp only [Act.put, List.getElem_toArray, List.getElem_cons_zero, List.getElem_cons_succ, List.setIfInBounds_toArray, List.set_cons_zero, List.set_cons_succ]
          refine wpAnyH_take (i := 6) (oi := _) (v := ?_) rfl (by kernel_rfl) (by kernel_rfl) (by kernel_rfl) (fun _ _ _ h => h) (Or.inl ⟨by kernel_rfl, ?_⟩) ⟨hb.cell rfl, hbl.cell rfl, nr.cell rfl⟩ ?_
          rotate_left
          · (rintro w ⟨s0, s1, s2⟩; go_simp; (first | done | rfl))
          try simp only [Act.put, List.getElem_toArray, List.getElem_cons_zero, List.getElem_cons_succ, List.setIfInBounds_toArray, List.set_cons_zero, List.set_cons_succ]
          refine wpAnyH_take (i := 7) (oi := _) (v := ?_) rfl (by kernel_rfl) (by kernel_rfl) (by kernel_rfl) (fun _ _ _ h => h) (Or.inl ⟨by kernel_rfl, ?_⟩) ⟨hb.cell rfl, hbl.cell rfl, nr.cell rfl⟩ ?_
          rotate_left
          · (rintro w ⟨s0, s1, s2⟩; go_simp; (first | done | rfl))
          try simp only [Act.put, List.getElem_toArray, List.getElem_cons_zero, List.getElem_cons_succ, List.setIfInBounds_toArray, List.set_cons_zero, List.set_cons_succ]
          refine wpAnyH_take (i := 8) (oi := _) (v := ?_) rfl (by kernel_rfl) (by kernel_rfl) (by kernel_rfl) (fun _ _ _ h => h) (Or.inl ⟨by kernel_rfl, ?_⟩) ⟨hb.cell rfl, hbl.cell rfl, nr.cell rfl⟩ ?_
          rotate_left
          · (rintro w ⟨s0, s1, s2⟩; go_simp; (first | done | rfl))
          try simp only [Act.put, List.getElem_toArray, List.getElem_cons_zero, List.getElem_cons_succ, List.setIfInBounds_toArray, List.set_cons_zero, List.set_cons_succ]
          refine wpAnyH_take (i := 9) (oi := _) (v := ?_) rfl (by kernel_rfl) (by kernel_rfl) (by kernel_rfl) (fun _ _ _ h => h) (Or.inl ⟨by kernel_rfl, ?_⟩) ⟨hb.cell rfl, hbl.cell rfl, nr.cell rfl⟩ ?_
          rotate_left
          · (rintro w ⟨s0, s1, s2⟩; go_simp; (first | done | rfl))
          try simp only [Act.put, List.getElem_toArray, List.getElem_cons_zero, List.getElem_cons_succ, List.setIfInBounds_toArray, List.set_cons_zero, List.set_cons_succ]
          refine wpAnyH_take (i := 10) (oi := _) (v := ?_) rfl (by kernel_rfl) (by kernel_rfl) (by kernel_rfl) (fun _ _ _ h => h) (Or.inl ⟨by kernel_rfl, ?_⟩) ⟨hb.cell rfl, hbl.cell rfl, nr.cell rfl⟩ ?_
          rotate_left
          · (rintro w ⟨s0, s1, s2⟩; go_simp; (first | done | rfl))
          try simp only [Act.put, List.getElem_toArray, List.getElem_cons_zero, List.getElem_cons_succ, List.setIfInBounds_toArray, List.set_cons_zero, List.set_cons_succ]
          refine wpAnyH_take (i := 11) (oi := _) (v := ?_) rfl (by kernel_rfl) (by kernel_rfl) (by kernel_rfl) (fun _ _ _ h => h) (Or.inl ⟨by kernel_rfl, ?_⟩) ⟨hb.cell rfl, hbl.cell rfl, nr.cell rfl⟩ ?_
          rotate_left
          · (rintro w ⟨s0, s1, s2⟩; go_simp; (first | done | rfl))
          try simp only [Act.put, List.getElem_toArray, List.getElem_cons_zero, List.getElem_cons_succ, List.setIfInBounds_toArray, List.set_cons_zero, List.set_cons_succ]
          refine wpAnyH_take (i := 12) (oi := _) (v := ?_) rfl (by kernel_rfl) (by kernel_rfl) (by kernel_rfl) (fun _ _ _ h => h) (Or.inl ⟨by kernel_rfl, ?_⟩) ⟨hb.cell rfl, hbl.cell rfl, nr.cell rfl⟩ ?_
          rotate_left
          · (rintro w ⟨s0, s1, s2⟩; go_simp; (first | done | rfl))
          try simp only [Act.put, List.getElem_toArray, List.getElem_cons_zero, List.getElem_cons_succ, List.setIfInBounds_toArray, List.set_cons_zero, List.set_cons_succ]
          refine wpAnyH_take (i := 13) (oi := _) (v := ?_) rfl (by kernel_rfl) (by kernel_rfl) (by kernel_rfl) (fun _ _ _ h => h) (Or.inl ⟨by kernel_rfl, ?_⟩) ⟨hb.cell rfl, hbl.cell rfl, nr.cell rfl⟩ ?_
          rotate_left
          · (rintro w ⟨s0, s1, s2⟩; go_simp; (first | done | rfl))
          try simp only [Act.put, List.getElem_toArray, List.getElem_cons_zero, List.getElem_cons_succ, List.setIfInBounds_toArray, List.set_cons_zero, List.set_cons_succ]
          refine wpAnyH_take (i := 14) (oi := _) (v := ?_) rfl (by kernel_rfl) (by kernel_rfl) (by kernel_rfl) (fun _ _ _ h => h) (Or.inl ⟨by kernel_rfl, ?_⟩) ⟨hb.cell rfl, hbl.cell rfl, nr.cell rfl⟩ ?_
          rotate_left
          · (rintro w ⟨s0, s1, s2⟩; go_simp; (first | done | rfl))
          try simp only [Act.put, List.getElem_toArray, List.getElem_cons_zero, List.getElem_cons_succ, List.setIfInBounds_toArray, List.set_cons_zero, List.set_cons_succ]
          refine wpAnyH_take (i := 15) (oi := _) (v := ?_) rfl (by kernel_rfl) (by kernel_rfl) (by kernel_rfl) (fun _ _ _ h => h) (Or.inl ⟨by kernel_rfl, ?_⟩) ⟨hb.cell rfl, hbl.cell rfl, nr.cell rfl⟩ ?_
          rotate_left
          · (rintro w ⟨s0, s1, s2⟩; go_simp; (first | done | rfl))
          try simp only [Act.put, List.getElem_toArray, List.getElem_cons_zero, List.getElem_cons_succ, List.setIfInBounds_toArray, List.set_cons_zero, List.set_cons_succ]
          refine wpAnyH_take (i := 16) (oi := _) (v := ?_) rfl (by kernel_rfl) (by kernel_rfl) (by kernel_rfl) (fun _ _ _ h => h) (Or.inl ⟨by kernel_rfl, ?_⟩) ⟨hb.cell rfl, hbl.cell rfl, nr.cell rfl⟩ ?_
          rotate_left
          · (rintro w ⟨s0, s1, s2⟩; go_simp; (first | done | rfl))
          try simp only [Act.put, List.getElem_toArray, List.getElem_cons_zero, List.getElem_cons_succ, List.setIfInBounds_toArray, List.set_cons_zero, List.set_cons_succ]
          refine wpAnyH_done (by kernel_rfl) ?_ _
          refine NoPanic.normal ?_
          go_wp2_with fail
          have g0 : wr.drew.drew.cell? ⟨g, 0, none⟩ = some (.pointer (some ⟨bl, 0, none⟩)) := hb.cell rfl
          refine wp_region_noPanic ?_
          refine wp_region_held_drew (S := (fun w' => w'.cell? ⟨bn, 0, none⟩ = some (.int .i64 xn.off))) (by kernel_rfl) (nr.cell rfl) (fun _ => ?_)
          refine wpAnyH_take (i := 1) (oi := _) (v := ?_) rfl (by kernel_rfl) (by kernel_rfl) (by kernel_rfl) (fun _ _ _ h => h) (Or.inl ⟨by kernel_rfl, ?_⟩) (nr.cell rfl) ?_
          rotate_left
          · (rintro w s0; go_simp; (first | done | rfl))
          try simp only [Act.put, List.getElem_toArray, List.getElem_cons_zero, List.getElem_cons_succ, List.setIfInBounds_toArray, List.set_cons_zero, List.set_cons_succ]
          refine wpAnyH_take (i := 2) (oi := _) (v := ?_) rfl (by kernel_rfl) (by kernel_rfl) (by kernel_rfl) (fun _ _ _ h => h) (Or.inl ⟨by kernel_rfl, ?_⟩) (nr.cell rfl) ?_
          rotate_left
          · (rintro w s0; go_simp; (first | done | rfl))
          try simp only [Act.put, List.getElem_toArray, List.getElem_cons_zero, List.getElem_cons_succ, List.setIfInBounds_toArray, List.set_cons_zero, List.set_cons_succ]
          refine wpAnyH_take (i := 3) (oi := _) (v := ?_) rfl (by kernel_rfl) (by kernel_rfl) (by kernel_rfl) (fun _ _ _ h => h) (Or.inl ⟨by kernel_rfl, ?_⟩) (nr.cell rfl) ?_
          rotate_left
          · (rintro w s0; go_simp; (first | done | rfl))
          try simp only [Act.put, List.getElem_toArray, List.getElem_cons_zero, List.getElem_cons_succ, List.setIfInBounds_toArray, List.set_cons_zero, List.set_cons_succ]
          refine wpAnyH_take (i := 4) (oi := _) (v := ?_) rfl (by kernel_rfl) (by kernel_rfl) (by kernel_rfl) (fun _ _ _ h => h) (Or.inl ⟨by kernel_rfl, ?_⟩) (nr.cell rfl) ?_
          rotate_left
          · (rintro w s0; go_simp; (first | done | rfl))
          try simp only [Act.put, List.getElem_toArray, List.getElem_cons_zero, List.getElem_cons_succ, List.setIfInBounds_toArray, List.set_cons_zero, List.set_cons_succ]
          refine wpAnyH_take (i := 5) (oi := _) (v := ?_) rfl (by kernel_rfl) (by kernel_rfl) (by kernel_rfl) (fun _ _ _ h => h) (Or.inl ⟨by kernel_rfl, ?_⟩) (nr.cell rfl) ?_
          rotate_left
          · (rintro w s0; go_simp; (first | done | rfl))
          try simp only [Act.put, List.getElem_toArray, List.getElem_cons_zero, List.getElem_cons_succ, List.setIfInBounds_toArray, List.set_cons_zero, List.set_cons_succ]
          refine wpAnyH_ready (rs := [0]) (by kernel_rfl) (by simp) (AllReadyH.cons (o := _) rfl (fun K hK => ?_) AllReadyH.nil)
          rw [if_pos (by kernel_rfl)]
          go_simp
          refine hK.out _ _ (nr.cell rfl) (fun _ => ?_)
          clear hK K
          try simp only [Act.put, List.getElem_toArray, List.getElem_cons_zero, List.getElem_cons_succ, List.setIfInBounds_toArray, List.set_cons_zero, List.set_cons_succ]
          refine wpAnyH_ready (rs := [6]) (by kernel_rfl) (by simp) (AllReadyH.cons (o := _) rfl (fun K hK => ?_) AllReadyH.nil)
          rw [if_pos (by kernel_rfl)]
          refine wp_fn 39 _ _ rfl _ rfl enters_toward (toward_hi bl aL aR kx _ _ xn.off _ (show Blk wr.drew.drew _ _ _ from hbl) (Int.not_lt.2 Hlt.out)) ?_
          rintro en w5 ⟨rfl, hb5⟩
          have hB5 : Below wr.heap.size wr w5 := below_undrew (below_undrew hb5)
          refine ⟨_, rfl, ?_⟩
          refine hK.out _ _ ((nr.keep hB5).cell rfl) (fun _ => ?_)
          clear hK K
          try simp only [Act.put, List.getElem_toArray, List.getElem_cons_zero, List.getElem_cons_succ, List.setIfInBounds_toArray, List.set_cons_zero, List.set_cons_succ]
          refine wpAnyH_ready (rs := [7]) (by kernel_rfl) (by simp) (AllReadyH.cons (o := _) rfl (fun K hK => ?_) AllReadyH.nil)
          rw [if_pos (by kernel_rfl)]
          refine wp_store_blk 70 _ _ rfl g 70 _ #[.pointer aR] (hb.keep hB5) rfl rfl rfl size_tree (one_ptr _) ?_
          intro w10 hk10 ht10
          refine hK.out _ _ ((ht10.blk (nr.keep hB5) (by omega)).cell rfl) (fun _ => ?_)
          clear hK K
          try simp only [Act.put, List.getElem_toArray, List.getElem_cons_zero, List.getElem_cons_succ, List.setIfInBounds_toArray, List.set_cons_zero, List.set_cons_succ]
          refine wpAnyH_done (by kernel_rfl) ?_ _
          refine NoPanic.normal ?_
          go_wp2
          go_roundw
          case rel => exact ⟨aR, R, _, hk10, (hR.below hB5).var (hb.keep hB5) ht10, l5, fun h => Nd.var (hb.keep hB5) ht10 ((Hr.out h).below hB5), fun h => (hnil' h).elim, (hF.trans (Tn.ofBelow hB5 (Nat.le_refl _))).trans ht10⟩
          case measure => rw [hcnt, cntAt_tree S hk10 ((hR.below hB5).var (hb.keep hB5) ht10)]; simp only [Tr.size]; omega
end
end Go.Proofs.Ytiehhmchokbafaa
