/- XCowS, XCowU, XCowY, XCowV, XCowW. -/
import Derived.Test.YtfcfffilfmbpeaaCowT
import Derived.Test.YtfcfffilfmbpeaaCowX
import Derived.LaidEqlPtr
import Derived.Test.YtfcfffilfmbpeaaCowQa
import Derived.Test.YtfcfffilfmbpeaaEmpW
set_option linter.all false
namespace Go.Proofs.Ytfcfffilfmbpeaa
open Go.RowKit

/-- Block b is a node of the tree. -/
def Nd (w : World) (b : Nat) : Option Addr → Tr → Prop
  | _, .nil => False
  | a, .node _ lo x hi => ∃ b0 al ah, a = some ⟨b0, 0, none⟩ ∧ Blk w b0 126 (nd x al ah (max lo.deep hi.deep + 1) (lo.size + hi.size + 1)) ∧ (b = b0 ∨ Nd w b al lo ∨ Nd w b ah hi)
theorem nd_inj {x x' : Ext} {al al' ah ah' : Option Addr} {d d' s s' : Nat} (h : nd x al ah d s = nd x' al' ah' d' s') : x.off = x'.off ∧ al = al' ∧ ah = ah' := by
  simp only [nd, Array.mk.injEq, List.cons.injEq, Value.int.injEq, Value.pointer.injEq, true_and] at h
  exact ⟨h.1, h.2.2.2.2.1, h.2.2.2.2.2.1⟩
theorem blk_inj {w : World} {b : Nat} {t t' : TypeId} {cs cs' : Array Value} (h : Blk w b t cs) (k : Blk w b t' cs') : cs = cs' := by
  have h : w.heap[b]? = _ := h
  have k : w.heap[b]? = _ := k
  rw [h] at k
  injection k with k
  injection k
theorem nd_off {w : World} {S : Nat → Prop} {b : Nat} : ∀ {t : Tr} {a : Option Addr}, Tree w S a t → Nd w b a t → ∃ x ∈ t.list, ∃ al ah d s, Blk w b 126 (nd x al ah d s)
  | .node _ lo x hi, a, h, hb => by
    obtain ⟨b1, al, ah, rfl, h1, -, -, h4, h5⟩ := h
    obtain ⟨b0, al', ah', e, k1, hb⟩ := hb
    injection e with e
    injection e with e
    subst e
    obtain ⟨-, rfl, rfl⟩ := nd_inj (blk_inj h1 k1)
    rw [list_node]
    rcases hb with rfl | hb | hb
    · exact ⟨x, by simp, _, _, _, _, h1⟩
    · obtain ⟨y, hy, r⟩ := nd_off h4 hb
      exact ⟨y, by simp [hy], r⟩
    · obtain ⟨y, hy, r⟩ := nd_off h5 hb
      exact ⟨y, by simp [hy], r⟩
/-- No node is new. -/
def Tr.olden : Tr → Tr
  | .nil => .nil
  | .node _ lo x hi => .node false lo.olden x hi.olden
theorem Tr.olden_list : ∀ t : Tr, t.olden.list = t.list
  | .nil => rfl
  | .node _ lo x hi => by simp only [Tr.olden, Tr.list, Tr.olden_list lo, Tr.olden_list hi]
theorem Tr.olden_size (t : Tr) : t.olden.size = t.size := by rw [Tr.size_list, Tr.size_list, Tr.olden_list]
theorem Tr.olden_deep : ∀ t : Tr, t.olden.deep = t.deep
  | .nil => rfl
  | .node _ lo x hi => by simp only [Tr.olden, Tr.deep, Tr.olden_deep lo, Tr.olden_deep hi]
theorem Tr.olden_bal : ∀ {t : Tr}, t.bal → t.olden.bal
  | .nil, _ => trivial
  | .node _ lo x hi, h => ⟨Tr.olden_bal h.1, Tr.olden_bal h.2.1, by rw [Tr.olden_deep, Tr.olden_deep]; exact h.2.2.1, by rw [Tr.olden_deep, Tr.olden_deep]; exact h.2.2.2⟩
theorem Tr.olden_fresh : ∀ t : Tr, t.olden.fresh = 0
  | .nil => rfl
  | .node _ lo x hi => by simp [Tr.olden, Tr.fresh, Tr.olden_fresh lo, Tr.olden_fresh hi]
theorem tree_olden {w : World} {S S' : Nat → Prop} : ∀ {t : Tr} {a : Option Addr}, Tree w S a t → (∀ b, Nd w b a t → S' b) → Tree w S' a t.olden
  | .nil, _, h, _ => h
  | .node _ lo x hi, a, h, hS => by
    obtain ⟨b, al, ah, rfl, h1, h2, h3, h4, h5⟩ := h
    refine ⟨b, al, ah, rfl, ?_, h2, fun _ => hS b ⟨b, al, ah, rfl, h1, .inl rfl⟩, tree_olden h4 fun c hc => hS c ⟨b, al, ah, rfl, h1, .inr (.inl hc)⟩, tree_olden h5 fun c hc => hS c ⟨b, al, ah, rfl, h1, .inr (.inr hc)⟩⟩
    rw [Tr.olden_deep, Tr.olden_deep, Tr.olden_size, Tr.olden_size]
    exact h1
theorem Nd.below {w w' : World} {b : Nat} (hb : Below w.heap.size w w') : ∀ {t : Tr} {a : Option Addr}, Nd w b a t → Nd w' b a t
  | .node _ lo x hi, a, h => by
    obtain ⟨b0, al, ah, rfl, h1, h2⟩ := h
    exact ⟨b0, al, ah, rfl, h1.keep hb, h2.imp id (Or.imp (Nd.below hb) (Nd.below hb))⟩
theorem Nd.var {w w' : World} {q b : Nat} {cs : Array Value} (hq : Blk w q 103 cs) (ht : Tn q (q + 1) w w') : ∀ {t : Tr} {a : Option Addr}, Nd w b a t → Nd w' b a t
  | .node _ lo x hi, a, h => by
    obtain ⟨b0, al, ah, rfl, h1, h2⟩ := h
    have hne : b0 ≠ q := fun e => by subst e; exact (by decide : 103 ≠ 126) (blk_type hq h1)
    exact ⟨b0, al, ah, rfl, ht.blk h1 (by omega), h2.imp id (Or.imp (Nd.var hq ht) (Nd.var hq ht))⟩

section
variable (S : Nat → Prop)
/-- How many nodes the tree in a variable has. -/
def cntAt (w : World) (g : Nat) : Nat := match w.cell? ⟨g, 0, none⟩ with
  | some (.pointer (some p)) => match w.cell? ⟨p.block, 7, none⟩ with
    | some (.int _ n) => n.toNat
    | _ => 0
  | _ => 0
theorem cntAt_tree {w : World} {g : Nat} {a : Option Addr} {t : Tr} (hg : Blk w g 103 #[.pointer a]) (h : Tree w S a t) : cntAt w g = t.size := by
  have h0 := hg.cell (j := 0) (u := .pointer a) rfl
  unfold cntAt
  rw [h0]
  cases t with
  | nil =>
    have h : a = none := h
    subst h
    rfl
  | node nw L x R =>
    obtain ⟨b, al, ah, rfl, h1, -, -, -, -⟩ := h
    have h7 := h1.cell (j := 7) (u := .int .i64 ((L.size + R.size + 1 : Nat) : Int)) rfl
    simp only [h7]
    simp only [Tr.size]
    omega
/-- What has answers. -/
def HasAns (w : World) (bn : Nat) (a : Option Addr) (t : Tr) (e : Ending) (w' : World) : Prop := ∃ r, e = .returned (.bool r) ∧ (Nd w bn a t → r = true) ∧ (t = .nil → r = false) ∧ Below w.heap.size w w'
theorem size_node : (Try.prog.info? 126).map (·.size) = some 8 := by kernel_rfl
theorem eql_node_same (a : Addr) (w : World) : (binOp .eql 101 (.pointer (some a)) (.pointer (some a))).run Try.prog w = .ok (.bool true) w := by
  obtain ⟨j, hj, _⟩ := Option.map_eq_some_iff.1 size_node
  exact run_eql_ptr_same w a Try.underlying101 hj
theorem eql_node_other {a b : Nat} {w : World} {t t' : TypeId} {ca cb : Array Value} (hne : a ≠ b) (ha : Blk w a t ca) (hb : Blk w b t' cb) : (binOp .eql 101 (.pointer (some ⟨a, 0, none⟩)) (.pointer (some ⟨b, 0, none⟩))).run Try.prog w = .ok (.bool false) w := by
  obtain ⟨j, hj, hs⟩ := Option.map_eq_some_iff.1 size_node
  exact run_eql_ptr_other w Try.underlying101 hj (by omega) (fun e => hne (by injection e)) ha hb
theorem eql_node_none (a : Addr) (w : World) : (binOp .eql 101 (.pointer none) (.pointer (some a))).run Try.prog w = .ok (.bool false) w := by
  have h : ∀ d : Nat, (Op.equalIn (d + 1) 101 (.pointer none) (.pointer (some a))).run Try.prog w = .ok false w := fun d => by
    simp [Op.equalIn, run_underlying Try.underlying101]
  simp only [binOp]
  simp [Op.equal, Op.maxDepth, h 9999]
end
end Go.Proofs.Ytfcfffilfmbpeaa

set_option linter.all false
namespace Go.Proofs.Ytfcfffilfmbpeaa
open Go.RowKit

end Go.Proofs.Ytfcfffilfmbpeaa

set_option linter.all false
namespace Go.Proofs.Ytfcfffilfmbpeaa
open Go.RowKit

theorem listFrom_pairs : ∀ {A B : List Ext} {lo : Int}, listFrom lo (A ++ B) = true → ∀ a ∈ A, ∀ b ∈ B, a.off + a.len ≤ b.off
  | x :: A, B, lo, h, a, ha, b, hb => by
    rw [List.cons_append, listFrom_cons] at h
    rcases List.mem_cons.1 ha with rfl | ha
    · exact (listFrom_mem h.2.2 b (List.mem_append_right _ hb)).2
    · exact listFrom_pairs h.2.2 a ha b hb
theorem listFrom_join : ∀ {A B : List Ext} {lo lo' : Int}, listFrom lo A = true → listFrom lo' B = true → (∀ a ∈ A, ∀ b ∈ B, a.off + a.len ≤ b.off) → (∀ b ∈ B, lo ≤ b.off) → listFrom lo (A ++ B) = true
  | [], B, lo, lo', _, h2, _, h4 => by
    cases B with
    | nil => rfl
    | cons b r => rw [listFrom_cons] at h2; rw [List.nil_append, listFrom_cons]; exact ⟨h2.1, h4 b List.mem_cons_self, h2.2.2⟩
  | a :: A, B, lo, lo', h1, h2, h3, h4 => by
    rw [listFrom_cons] at h1
    rw [List.cons_append, listFrom_cons]
    exact ⟨h1.1, h1.2.1, listFrom_join h1.2.2 h2 (fun x hx => h3 x (List.mem_cons_of_mem _ hx)) (h3 a List.mem_cons_self)⟩
theorem alone_pair : ∀ {l : List Ext} {lo : Int}, listFrom lo l = true → aloneB l = true → ∀ x ∈ l, ∀ y ∈ l, oneB x y = false
  | z :: r, lo, h, ha, x, hx, y, hy => by
    have h0 := h
    rw [listFrom_cons] at h
    have hz := may_len h.1
    cases ho : oneB x y with
    | false => rfl
    | true =>
      exfalso
      obtain ⟨o1, o2, o3⟩ := one_is ho
      have hym : y.may = true := (listFrom_mem h0 y hy).1
      have hyl := may_len hym
      rcases List.mem_cons.1 hx with rfl | hx'
      · refine at_stop h0 ha ?_
        rw [at_mem h0 hy (has_iff.2 (by omega)), o2, o3]
        simp only [Option.some.injEq, Prod.mk.injEq, and_true]
        omega
      · have hxm := listFrom_mem h.2.2 x hx'
        have hxl := may_len hxm.1
        rcases List.mem_cons.1 hy with rfl | hy'
        · omega
        · have := alone_pair h.2.2 (alone_tail ha) x hx' y hy'
          rw [ho] at this
          cases this
theorem pair_alone : ∀ {l : List Ext}, (∀ x ∈ l, ∀ y ∈ l, oneB x y = false) → aloneB l = true
  | [], _ => rfl
  | [_], _ => rfl
  | x :: y :: r, h => by
    have h1 := h x List.mem_cons_self y (List.mem_cons_of_mem _ List.mem_cons_self)
    have h2 := pair_alone (l := y :: r) fun a ha b hb => h a (List.mem_cons_of_mem _ ha) b (List.mem_cons_of_mem _ hb)
    simp only [aloneB, h1, Bool.not_false, Bool.true_and] at h2 ⊢
    exact h2
theorem three_parts : ∀ {l : List Ext} {lo b e : Int}, listFrom lo l = true → b ≤ e → l = l.filter (isBelow b) ++ (l.filter (isNear b e) ++ l.filter (isAbove e))
  | [], _, _, _, _, _ => rfl
  | x :: r, lo, b, e, h, hbe => by
    rw [listFrom_cons] at h
    have hx := may_len h.1
    have ih := three_parts h.2.2 hbe
    have hlate : ∀ y ∈ r, x.off + x.len ≤ y.off ∧ 1 ≤ y.len := fun y hy => by have := listFrom_mem h.2.2 y hy; have h2 := may_len this.1; omega
    rw [List.filter_cons, List.filter_cons, List.filter_cons]
    by_cases c1 : x.off + x.len < b
    · have e1 : isBelow b x = true := by simp [isBelow, c1]
      have e2 : isNear b e x = false := by simp only [isNear, decide_eq_false_iff_not]; omega
      have e3 : isAbove e x = false := by simp only [isAbove, decide_eq_false_iff_not]; omega
      rw [e1, e2, e3]
      simp only [if_true, Bool.false_eq_true, if_false, List.cons_append]
      rw [← ih]
    · have n1 : r.filter (isBelow b) = [] := filter_none fun y hy => by have := hlate y hy; simp only [isBelow, decide_eq_false_iff_not]; omega
      have e1 : isBelow b x = false := by simp [isBelow, c1]
      rw [n1, List.nil_append] at ih
      by_cases c3 : e < x.off
      · have n2 : r.filter (isNear b e) = [] := filter_none fun y hy => by have := hlate y hy; simp only [isNear, decide_eq_false_iff_not]; omega
        have e2 : isNear b e x = false := by simp only [isNear, decide_eq_false_iff_not]; omega
        have e3 : isAbove e x = true := by simp [isAbove, c3]
        rw [n2, List.nil_append] at ih
        rw [e1, e2, e3, n1, n2]
        simp only [if_true, Bool.false_eq_true, if_false, List.nil_append]
        rw [← ih]
      · have e2 : isNear b e x = true := by simp only [isNear, decide_eq_true_eq]; omega
        have e3 : isAbove e x = false := by simp [isAbove, c3]
        rw [e1, e2, e3, n1]
        simp only [if_true, Bool.false_eq_true, if_false, List.nil_append, List.cons_append]
        rw [← ih]
theorem at_three (A B C : List Ext) (i : Int) : atL (A ++ (B ++ C)) i = match atL A i with | some v => some v | none => match atL B i with | some v => some v | none => atL C i := by
  rw [at_app, at_app]
  cases atL A i <;> rfl
/-- What is near turned, all else as it was. -/
theorem turned {l m : List Ext} {b e : Int} (h : rightB l = true) (hm : rightB m = true) (hbe : b ≤ e) (hi : ∀ i, ¬ (b ≤ i ∧ i < e) → atL m i = atL (l.filter (isNear b e)) i) :
    rightB (l.filter (isBelow b) ++ (m ++ l.filter (isAbove e))) = true ∧ ∀ i, atL (l.filter (isBelow b) ++ (m ++ l.filter (isAbove e))) i = if b ≤ i ∧ i < e then atL m i else atL l i := by
  have h1 := (right_is.1 h).1
  have h2 := (right_is.1 h).2
  have m1 := (right_is.1 hm).1
  have m2 := (right_is.1 hm).2
  have hsp := three_parts h1 hbe
  have hpair := alone_pair h1 h2
  generalize hP : l.filter (isBelow b) = P at *
  generalize hN : l.filter (isNear b e) = N at *
  generalize hQ : l.filter (isAbove e) = Q at *
  have h1s := h1
  rw [hsp] at h1s
  obtain ⟨hP1, hNQ⟩ := listFrom_split h1s
  obtain ⟨hN1, hQ1⟩ := listFrom_split hNQ
  have pPNQ := listFrom_pairs h1s
  have pNQ := listFrom_pairs hNQ
  have inP : ∀ x ∈ P, x ∈ l ∧ x.off + x.len < b := fun x hx => by rw [← hP] at hx; have := List.mem_filter.1 hx; exact ⟨this.1, by simpa [isBelow] using this.2⟩
  have inN : ∀ x ∈ N, x ∈ l := fun x hx => by rw [← hN] at hx; exact (List.mem_filter.1 hx).1
  have inQ : ∀ x ∈ Q, x ∈ l ∧ e < x.off := fun x hx => by rw [← hQ] at hx; have := List.mem_filter.1 hx; exact ⟨this.1, by simpa [isAbove] using this.2⟩
  have mayM : ∀ x ∈ m, 1 ≤ x.len := fun x hx => (may_len (listFrom_mem m1 x hx).1).1
  have mayN : ∀ x ∈ N, 1 ≤ x.len := fun x hx => (may_len (listFrom_mem hN1 x hx).1).1
  have mayP : ∀ x ∈ P, 1 ≤ x.len := fun x hx => (may_len (listFrom_mem hP1 x hx).1).1
  have old : ∀ x ∈ m, ∀ i, x.off ≤ i → i < x.off + x.len → ¬ (b ≤ i ∧ i < e) → ∃ n ∈ N, n.off ≤ i ∧ i < n.off + n.len ∧ n.phys + i - n.off = x.phys + i - x.off ∧ n.birth = x.birth := fun x hx i i1 i2 i3 => by
    have e1 := at_mem m1 hx (has_iff.2 ⟨i1, i2⟩)
    rw [hi i i3] at e1
    obtain ⟨n, hn, hh⟩ := at_some e1
    have e2 := at_mem hN1 hn hh
    rw [e1] at e2
    simp only [Option.some.injEq, Prod.mk.injEq] at e2
    have h3 := has_iff.1 hh
    exact ⟨n, hn, h3.1, h3.2, by omega, e2.2.symm⟩
  have sPM : ∀ p ∈ P, ∀ x ∈ m, p.off + p.len ≤ x.off ∧ oneB p x = false := fun p hp x hx => by
    have p1 := inP p hp
    have l1 := mayM x hx
    by_cases c : b ≤ x.off
    · exact ⟨by omega, one_gap (by omega)⟩
    · obtain ⟨n, hn, n1, n2, n3, n4⟩ := old x hx x.off (Int.le_refl _) (by omega) (by omega)
      have p2 := pPNQ p hp n (List.mem_append_left _ hn)
      refine ⟨by omega, ?_⟩
      cases ho : oneB p x with
      | false => rfl
      | true =>
        obtain ⟨o1, o2, o3⟩ := one_is ho
        have := hpair p p1.1 n (inN n hn)
        rw [one_yes (by omega) (by omega) (by omega)] at this
        cases this
  have sMQ : ∀ x ∈ m, ∀ q ∈ Q, x.off + x.len ≤ q.off ∧ oneB x q = false := fun x hx q hq => by
    have q1 := inQ q hq
    have l1 := mayM x hx
    by_cases c : x.off + x.len ≤ e
    · exact ⟨by omega, one_gap (by omega)⟩
    · obtain ⟨n, hn, n1, n2, n3, n4⟩ := old x hx (x.off + x.len - 1) (by omega) (by omega) (by omega)
      have p2 := pNQ n hn q hq
      refine ⟨by omega, ?_⟩
      cases ho : oneB x q with
      | false => rfl
      | true =>
        obtain ⟨o1, o2, o3⟩ := one_is ho
        have := hpair n (inN n hn) q q1.1
        rw [one_yes (by omega) (by omega) (by omega)] at this
        cases this
  have sPQ : ∀ p ∈ P, ∀ q ∈ Q, p.off + p.len ≤ q.off ∧ oneB p q = false := fun p hp q hq => by
    have p1 := inP p hp
    have q1 := inQ q hq
    exact ⟨by omega, one_gap (by omega)⟩
  have mQ1 : listFrom 0 (m ++ Q) = true := listFrom_join m1 hQ1 (fun x hx q hq => (sMQ x hx q hq).1) fun q hq => (listFrom_mem hQ1 q hq).2
  have mQ2 : aloneB (m ++ Q) = true := alone_app m2 (pair_alone fun x hx y hy => hpair x (inQ x hx).1 y (inQ y hy).1) fun x hx q hq => (sMQ x hx q hq).2
  have seam : ∀ p ∈ P, ∀ y ∈ m ++ Q, p.off + p.len ≤ y.off ∧ oneB p y = false := fun p hp y hy => by
    rcases List.mem_append.1 hy with hy | hy
    · exact sPM p hp y hy
    · exact sPQ p hp y hy
  refine ⟨right_is.2 ⟨listFrom_join hP1 mQ1 (fun p hp y hy => (seam p hp y hy).1) fun y hy => (listFrom_mem mQ1 y hy).2, alone_app (pair_alone fun x hx y hy => hpair x (inP x hx).1 y (inP y hy).1) mQ2 fun p hp y hy => (seam p hp y hy).2⟩, fun i => ?_⟩
  rw [at_three]
  by_cases c : b ≤ i ∧ i < e
  · rw [if_pos c]
    have eP : atL P i = none := at_none fun x hx => by
      have := inP x hx
      cases hh : x.has i with
      | false => rfl
      | true => have := has_iff.1 hh; omega
    have eQ : atL Q i = none := at_none fun x hx => by
      have := inQ x hx
      cases hh : x.has i with
      | false => rfl
      | true => have := has_iff.1 hh; omega
    rw [eP, eQ]
    cases atL m i <;> rfl
  · rw [if_neg c, hi i c, ← at_three, ← hsp]
theorem near_right {l : List Ext} {b e : Int} (h : rightB l = true) (hbe : b ≤ e) : rightB (l.filter (isNear b e)) = true := by
  have h1 := (right_is.1 h).1
  have hsp := three_parts h1 hbe
  have h1s := h1
  rw [hsp] at h1s
  have hN := (listFrom_split (listFrom_split h1s).2).1
  exact right_is.2 ⟨hN, pair_alone fun x hx y hy => alone_pair h1 (right_is.1 h).2 x (List.mem_filter.1 hx).1 y (List.mem_filter.1 hy).1⟩
theorem turned_put {l : List Ext} {x : Ext} (h : rightB l = true) (hx : x.may = true) :
    l.filter (isBelow x.off) ++ putL (l.filter (isNear x.off (x.off + x.len))) x ++ l.filter (isAbove (x.off + x.len)) = putL l x := by
  have hl := may_len hx
  have hN := near_right (e := x.off + x.len) (b := x.off) h (by omega)
  obtain ⟨p1, p2⟩ := put_is hN hx
  obtain ⟨q1, q2⟩ := put_is h hx
  obtain ⟨t1, t2⟩ := turned (b := x.off) (e := x.off + x.len) h p1 (by omega) fun i hi => by rw [p2, if_neg hi]
  rw [List.append_assoc]
  refine form_is t1 q1 fun i _ _ => ?_
  rw [t2, q2]
  by_cases c : x.off ≤ i ∧ i < x.off + x.len
  · rw [if_pos c, if_pos c, p2, if_pos c]
  · rw [if_neg c, if_neg c]
theorem turned_cut {l : List Ext} {off n : Int} (h : rightB l = true) (hr : rangeB off n = true) :
    l.filter (isBelow off) ++ cutL (l.filter (isNear off (off + n))) off n ++ l.filter (isAbove (off + n)) = cutL l off n := by
  have hl : 0 ≤ off ∧ 1 ≤ n := by simp only [rangeB, Bool.and_eq_true, decide_eq_true_eq] at hr; omega
  have hN := near_right (e := off + n) (b := off) h (by omega)
  obtain ⟨p1, p2⟩ := cut_is hN hr
  obtain ⟨q1, q2⟩ := cut_is h hr
  obtain ⟨t1, t2⟩ := turned (b := off) (e := off + n) h p1 (by omega) fun i hi => by rw [p2, if_neg hi]
  rw [List.append_assoc]
  refine form_is t1 q1 fun i _ _ => ?_
  rw [t2, q2]
  by_cases c : off ≤ i ∧ i < off + n
  · rw [if_pos c, if_pos c, p2, if_pos c]
  · rw [if_neg c, if_neg c]
theorem part_near {l : List Ext} {b e : Int} (h : rightB l = true) (hbe : b ≤ e) : partL (l.filter (isNear b e)) b e = partL l b e := by
  have hsp := three_parts (right_is.1 h).1 hbe
  conv => rhs; rw [hsp]
  rw [part_app, part_app, part_out (l := l.filter (isBelow b)) fun x hx => by have := (List.mem_filter.1 hx).2; simp only [isBelow, decide_eq_true_eq] at this; omega,
    part_out (l := l.filter (isAbove e)) fun x hx => by have := (List.mem_filter.1 hx).2; simp only [isAbove, decide_eq_true_eq] at this; omega]
  simp
theorem near_all {l : List Ext} (h : rightB l = true) : l.filter (isNear 0 1024) = l := filter_all fun x hx => by
  have := may_len (listFrom_mem (right_is.1 h).1 x hx).1
  simp only [isNear, decide_eq_true_eq]
  omega

/-! ### how long what comes is -/
theorem part_lo_len : ∀ {l : List Ext} {lo b : Int}, listFrom lo l = true → (∀ x ∈ l, b ≤ x.off + x.len) → (partL l 0 b).length ≤ 1
  | [], _, _, _, _ => Nat.zero_le _
  | x :: r, lo, b, h, hb => by
    rw [listFrom_cons] at h
    have hx := may_len h.1
    have hr : partL r 0 b = [] := part_out fun y hy => by have := listFrom_mem h.2.2 y hy; have := hb x List.mem_cons_self; omega
    rw [part_cons, hr]
    split <;> simp
theorem part_hi_len : ∀ {l : List Ext} {lo e : Int}, listFrom lo l = true → (∀ x ∈ l, x.off ≤ e) → (partL l e 1024).length ≤ 1
  | [], _, _, _, _ => Nat.zero_le _
  | x :: r, lo, e, h, he => by
    rw [listFrom_cons] at h
    have hx := may_len h.1
    by_cases c : x.off + x.len ≤ e
    · have : clip x e 1024 = none := by unfold clip; rw [if_neg (by omega)]
      rw [part_cons, this]
      exact part_hi_len h.2.2 fun y hy => he y (List.mem_cons_of_mem _ hy)
    · cases r with
      | nil => rw [part_cons]; split <;> simp [partL]
      | cons y r =>
        have h1 := listFrom_mem h.2.2 y List.mem_cons_self
        have h2 := he y (List.mem_cons_of_mem _ List.mem_cons_self)
        omega
theorem fold_len : ∀ (l p : List Ext), (l.foldl pushL p).length ≤ p.length + l.length
  | [], _ => Nat.le_refl _
  | x :: l, p => by
    have h1 := fold_len l (pushL p x)
    have h2 := push_length p x
    simp only [List.foldl_cons, List.length_cons]
    omega
theorem join_len (l : List Ext) : (joinL l).length ≤ l.length := by
  rw [← fold_join]
  have := fold_len l []
  simpa using this
theorem near_put_len {l : List Ext} {x : Ext} (h : rightB l = true) (hx : x.may = true) : (putL (l.filter (isNear x.off (x.off + x.len))) x).length ≤ 3 := by
  have hl := may_len hx
  have hN := (right_is.1 (near_right (e := x.off + x.len) (b := x.off) h (by omega))).1
  have hin : ∀ y ∈ l.filter (isNear x.off (x.off + x.len)), x.off ≤ y.off + y.len ∧ y.off ≤ x.off + x.len := fun y hy => by simpa [isNear] using (List.mem_filter.1 hy).2
  have h1 := part_lo_len (b := x.off) hN fun y hy => (hin y hy).1
  have h2 := part_hi_len (e := x.off + x.len) hN fun y hy => (hin y hy).2
  have h3 := join_len (partL (l.filter (isNear x.off (x.off + x.len))) 0 x.off ++ x :: partL (l.filter (isNear x.off (x.off + x.len))) (x.off + x.len) 1024)
  simp only [List.length_append, List.length_cons] at h3
  unfold putL
  omega
theorem near_cut_len {l : List Ext} {off n : Int} (h : rightB l = true) (hr : rangeB off n = true) : (cutL (l.filter (isNear off (off + n))) off n).length ≤ 3 := by
  have hl : 0 ≤ off ∧ 1 ≤ n := by simp only [rangeB, Bool.and_eq_true, decide_eq_true_eq] at hr; omega
  have hN := (right_is.1 (near_right (e := off + n) (b := off) h (by omega))).1
  have hin : ∀ y ∈ l.filter (isNear off (off + n)), off ≤ y.off + y.len ∧ y.off ≤ off + n := fun y hy => by simpa [isNear] using (List.mem_filter.1 hy).2
  have h1 := part_lo_len (b := off) hN fun y hy => (hin y hy).1
  have h2 := part_hi_len (e := off + n) hN fun y hy => (hin y hy).2
  unfold cutL
  simp only [List.length_append]
  omega
end Go.Proofs.Ytfcfffilfmbpeaa

set_option linter.all false
namespace Go.Proofs.Ytfcfffilfmbpeaa
open Go.RowKit

/-! ### frames by types -/
/-- All that was there is as it was, but for blocks of the types T. -/
structure Ty (T : TypeId → Prop) (w w' : World) : Prop where
  os : w'.os = w.os
  tape : w'.tape = w.tape
  output : w'.output = w.output
  size : w.heap.size ≤ w'.heap.size
  block : ∀ b t cs, Blk w b t cs → ¬ T t → Blk w' b t cs
theorem Ty.refl (T : TypeId → Prop) (w : World) : Ty T w w := ⟨rfl, rfl, rfl, Nat.le_refl _, fun _ _ _ h _ => h⟩
theorem Ty.trans {T : TypeId → Prop} {a b c : World} (h : Ty T a b) (k : Ty T b c) : Ty T a c :=
  ⟨k.os.trans h.os, k.tape.trans h.tape, k.output.trans h.output, Nat.le_trans h.size k.size, fun i t cs hi hT => k.block i t cs (h.block i t cs hi hT) hT⟩
theorem Ty.ofBelow {T : TypeId → Prop} {a b : World} (h : Below a.heap.size a b) : Ty T a b := ⟨h.os, h.tape, h.output, h.size, fun _ _ _ hi _ => hi.keep h⟩
theorem Ty.ofGrown {T : TypeId → Prop} {a b : World} {row : Option Nat} (h : a.grownBy b row) (hr : ∀ g, row = some g → ∃ t cs, Blk a g t cs ∧ T t) : Ty T a b :=
  ⟨h.os, h.tape, h.output, h.size, fun i t cs hi hT => hi.grown h fun e => by
    obtain ⟨t', cs', k, kT⟩ := hr i e.symm
    exact hT (by rw [blk_type hi k]; exact kT)⟩
theorem Ty.set {T : TypeId → Prop} {w : World} {b : Nat} {t : TypeId} {cs : Array Value} (h : Blk w b t cs) (hT : T t) (o : Nat) (u : Value) : Ty T w (w.setCell ⟨b, o, none⟩ u) :=
  Ty.ofGrown (grown_setCell _ _ _) fun g e => by injection e with e; subst e; exact ⟨t, cs, h, hT⟩
theorem Ty.drew {T : TypeId → Prop} {a b : World} (h : Ty T a.drew b) : Ty T a b := ⟨h.os, h.tape, h.output, h.size, h.block⟩
theorem Ty.drewR {T : TypeId → Prop} {a b : World} (h : Ty T a b) : Ty T a b.drew := ⟨h.os, h.tape, h.output, h.size, h.block⟩
theorem Ty.wide {T T' : TypeId → Prop} {a b : World} (h : Ty T a b) (hT : ∀ t, T t → T' t) : Ty T' a b := ⟨h.os, h.tape, h.output, h.size, fun i t cs hi k => h.block i t cs hi fun q => k (hT t q)⟩
theorem Tree.ty {T : TypeId → Prop} {w w' : World} {S : Nat → Prop} (hT : ¬ T 126) (hb : Ty T w w') : ∀ {t : Tr} {a : Option Addr}, Tree w S a t → Tree w' S a t
  | .nil, _, h => h
  | .node _ lo x hi, a, h => by
    obtain ⟨b, al, ah, rfl, h1, h2, h3, h4, h5⟩ := h
    exact ⟨b, al, ah, rfl, hb.block _ _ _ h1 hT, h2, h3, Tree.ty hT hb h4, Tree.ty hT hb h5⟩
theorem own_ty {T : TypeId → Prop} {w w' : World} (hb : Ty T w w') {B : Nat} {e : TypeId} (hT : ¬ T e) {sz : Nat} {v : Value} {n : Nat} {xs : List Value} (h : w.ownsRow B e sz v n xs) : w'.ownsRow B e sz v n xs := by
  refine ⟨h.1, ?_⟩
  rcases h.2 with hn | ⟨g, cap, cur, hv, hB, hg, rest⟩
  · exact .inl hn
  · exact .inr ⟨g, cap, cur, hv, hB, hb.block g e cur hg hT, rest⟩

/-! ### a forest -/
/-- The types that a forest writes to. -/
def FoT : TypeId → Prop := fun t => t = 106 ∨ t = 103
theorem FoT.node : ¬ FoT 126 := by unfold FoT; decide
abbrev All : Nat → Prop := fun _ => True
abbrev Root : Type := Option Addr × Tr
/-- Forest f has these trees, by their numbers; what it writes to lies from B on. -/
structure Fo (w : World) (B f : Nat) (ls : List Root) : Prop where
  row : ∃ v, Blk w f 106 #[.pointer (some ⟨f, 0, none⟩), v] ∧ w.ownsRow B 103 1 v ls.length (ls.map fun q => .pointer q.1)
  trees : ∀ q ∈ ls, Tree w All q.1 q.2 ∧ q.2.bal ∧ rightB q.2.list = true
  new : B ≤ f
  least : 0 < ls.length
  few : ls.length ≤ 100000
theorem Fo.ty {T : TypeId → Prop} {w w' : World} {B f : Nat} {ls : List Root} (h : Fo w B f ls) (ht : Ty T w w') (h1 : ¬ T 106) (h2 : ¬ T 103) (h3 : ¬ T 126) : Fo w' B f ls := by
  obtain ⟨v, k1, k2⟩ := h.row
  exact ⟨⟨v, ht.block _ _ _ k1 h1, own_ty ht h2 k2⟩, fun q hq => ⟨(h.trees q hq).1.ty h3 ht, (h.trees q hq).2⟩, h.new, h.least, h.few⟩
theorem Fo.below {w w' : World} {B f : Nat} {ls : List Root} (h : Fo w B f ls) (hb : Below w.heap.size w w') : Fo w' B f ls := h.ty (T := fun _ => False) (Ty.ofBelow hb) id id id
theorem Fo.alloc {w : World} {B f : Nat} {ls : List Root} (h : Fo w B f ls) (o : Obj) : Fo (w.alloc o) B f ls := h.below ((Below.refl _ _).alloc (Nat.le_refl _) _)
theorem Fo.drew {w : World} {B f : Nat} {ls : List Root} (h : Fo w B f ls) : Fo w.drew B f ls := ⟨h.row, fun q hq => ⟨(h.trees q hq).1.drew, (h.trees q hq).2⟩, h.new, h.least, h.few⟩
theorem size_small {t : Tr} (h : rightB t.list = true) : t.size ≤ 1024 := by rw [Tr.size_list]; exact right_short h
theorem Fo.lt {w : World} {B f : Nat} {ls : List Root} (h : Fo w B f ls) : f < w.heap.size := by obtain ⟨v, k, _⟩ := h.row; exact k.lt
/-- Its row, and what lies in it. -/
theorem Fo.cells {w : World} {B f : Nat} {ls : List Root} (h : Fo w B f ls) : ∃ b c, w.cell? ⟨f, 0, none⟩ = some (.pointer (some ⟨f, 0, none⟩)) ∧ w.cell? ⟨f, 1, none⟩ = some (.slice (some ⟨b, 0, none⟩) ls.length c) ∧ ls.length ≤ c ∧ ∀ k q, ls[k]? = some q → w.cell? ⟨b, k, none⟩ = some (.pointer q.1) := by
  obtain ⟨v, k1, k2⟩ := h.row
  have hs := h.least
  rcases k2.2 with ⟨-, hn⟩ | ⟨g, cap, cur, rfl, -, hg, hc, -, hcs, hx⟩
  · omega
  · have hg' : Blk w g 103 cur := hg
    refine ⟨g, cap, k1.cell rfl, k1.cell rfl, hc, fun k q hq => ?_⟩
    have hk : k < ls.length := (List.getElem?_eq_some_iff.1 hq).1
    refine hg'.cell ?_
    have h1 : (ls.map fun q => Value.pointer q.1)[k]? = some (.pointer q.1) := by rw [List.getElem?_map, hq]; rfl
    rw [← hx, List.getElem?_take, if_pos (by omega)] at h1
    simpa using h1

theorem size_forest : (Try.prog.info? 106).map (·.size) = some 2 := by kernel_rfl
theorem eql_forest (a : Addr) (w : World) : (binOp .eql 59 (.pointer (some a)) (.pointer (some a))).run Try.prog w = .ok (.bool true) w := by
  obtain ⟨j, hj, _⟩ := Option.map_eq_some_iff.1 size_forest
  exact run_eql_ptr_same w a Try.underlying59 hj
theorem eql_forest_none (a : Addr) (w : World) : (binOp .eql 59 (.pointer none) (.pointer (some a))).run Try.prog w = .ok (.bool false) w := by
  have h : ∀ d : Nat, (Op.equalIn (d + 1) 59 (.pointer none) (.pointer (some a))).run Try.prog w = .ok false w := fun d => by
    simp [Op.equalIn, run_underlying Try.underlying59]
  simp only [binOp]
  simp [Op.equal, Op.maxDepth, h 9999]
/-- A forest that nobody made: nil, or a zero one. -/
def NoFo (w : World) : Option Addr → Prop
  | none => True
  | some p => ∃ b v, p = ⟨b, 0, none⟩ ∧ Blk w b 106 #[.pointer none, v]
theorem NoFo.below {w w' : World} {p : Option Addr} (h : NoFo w p) (hb : Below w.heap.size w w') : NoFo w' p := by
  cases p with
  | none => trivial
  | some p => obtain ⟨b, v, e, k⟩ := h; exact ⟨b, v, e, k.keep hb⟩
/-- A tree and an error. -/
theorem results_te {fn : Func} {W : World} {s s' q : Nat} {a : Option Addr} {u : Value} {tmps : Array Value} (h : fn.results = #[.cell s 103, .tmp s']) (h2 : tmps.getD s undef = .pointer (some ⟨q, 0, none⟩)) (h3 : tmps.getD s' undef = u) (hb : Blk W q 103 #[.pointer a]) :
    (results fn tmps).run Try.prog W = .ok (.tuple #[.agg #[.pointer a], u]) W := by
  have d0 := hb.cell (j := 0) rfl
  have h2' : tmps[s]?.getD undef = .pointer (some ⟨q, 0, none⟩) := by simpa using h2
  have h3' : tmps[s']?.getD undef = u := by simpa using h3
  simp [results, h, h2', h3', go_sem, d0]

section
variable (w : World) (B f : Nat) (ls : List Root)
set_option maxRecDepth 100000 in
theorem made_ (h : Fo w B f ls) : Calls Try.prog 69 #[.pointer (some ⟨f, 0, none⟩)] w fun e w' => e = .returned (.bool true) ∧ w = w' := by
  obtain ⟨b, c, c0, -, -, -⟩ := h.cells
  have q := eql_forest ⟨f, 0, none⟩ w
  go_enter Try.func69, Try.ntmps69
  go_wp2
  go_ret
  exact ⟨rfl, rfl⟩
set_option maxRecDepth 100000 in
theorem made_no (p : Option Addr) (h : NoFo w p) : Calls Try.prog 69 #[.pointer p] w fun e w' => e = .returned (.bool false) ∧ w = w' := by
  cases p with
  | none =>
    go_enter Try.func69, Try.ntmps69
    go_wp2
    go_ret
    exact ⟨rfl, rfl⟩
  | some p =>
    obtain ⟨b, v, rfl, k⟩ := h
    have c0 := k.cell (j := 0) (u := .pointer none) rfl
    have q := eql_forest_none ⟨b, 0, none⟩ w
    go_enter Try.func69, Try.ntmps69
    go_wp2
    go_ret
    exact ⟨rfl, rfl⟩
set_option maxRecDepth 100000 in
set_option maxHeartbeats 1000000 in
theorem tree_ok (h : Fo w B f ls) (k : Nat) (q : Root) (hk : ls[k]? = some q) : Calls Try.prog 58 #[.pointer (some ⟨f, 0, none⟩), .int .i64 (k : Int)] w fun e w' => e = .returned (.tuple #[.agg #[.pointer q.1], .int .i64 0]) ∧ Below w.heap.size w w' := by
  have hkl : k < ls.length := (List.getElem?_eq_some_iff.1 hk).1
  have hfew := h.few
  obtain ⟨b, c, c0, c1, hcc, cx⟩ := h.cells
  have ck := cx k q hk
  obtain ⟨pa, pt⟩ := q
  have hB : Below w.heap.size w (w.alloc (.cells #[.pointer pa] 103)) := (Below.refl _ _).alloc (Nat.le_refl _) _
  have hnew := Blk.new w 103 #[.pointer pa] rfl
  have hge : decide ((ls.length : Int) ≤ (k : Int)) = false := decide_eq_false (by omega)
  have hlt : decide ((k : Int) < 0) = false := decide_eq_false (by omega)
  have d1 : (w.alloc (.cells #[.pointer none] 103)).cell? ⟨f, 1, none⟩ = some (.slice (some ⟨b, 0, none⟩) ls.length c) := by rw [World.cell?_alloc_lt _ _ _ (cell_lt c1)]; exact c1
  have dk : (w.alloc (.cells #[.pointer none] 103)).cell? ⟨b, k, none⟩ = some (.pointer pa) := by rw [World.cell?_alloc_lt _ _ _ (cell_lt ck)]; exact ck
  have hkI : (k : Int) < (ls.length : Int) := by omega
  clear c0 cx hk hcc
  go_enter Try.func58, Try.ntmps58
  go_wp2_with fail
  refine (made_ _ B f ls (h.alloc _)).mono ?_
  rintro e w2 ⟨rfl, rfl⟩
  go_wp2
  refine bodyPost_ret (results_te rfl rfl rfl hnew) rfl ?_
  exact ⟨rfl, hB⟩
set_option maxRecDepth 100000 in
set_option maxHeartbeats 1000000 in
theorem tree_none (h : Fo w B f ls) (r : Int) (hr : ¬ (0 ≤ r ∧ r < ls.length)) : Calls Try.prog 58 #[.pointer (some ⟨f, 0, none⟩), .int .i64 r] w fun e w' => e = .returned (.tuple #[.agg #[.pointer none], .int .i64 9]) ∧ Below w.heap.size w w' := by
  have hfew := h.few
  obtain ⟨b, c, c0, c1, hcc, cx⟩ := h.cells
  have hB : Below w.heap.size w (w.alloc (.cells #[.pointer none] 103)) := (Below.refl _ _).alloc (Nat.le_refl _) _
  have hnew := Blk.new w 103 #[.pointer none] rfl
  have d1 : (w.alloc (.cells #[.pointer none] 103)).cell? ⟨f, 1, none⟩ = some (.slice (some ⟨b, 0, none⟩) ls.length c) := by rw [World.cell?_alloc_lt _ _ _ (cell_lt c1)]; exact c1
  clear c0 cx hcc
  by_cases hneg : r < 0
  · have hlt : decide (r < 0) = true := decide_eq_true hneg
    go_enter Try.func58, Try.ntmps58
    go_wp2_with fail
    refine (made_ _ B f ls (h.alloc _)).mono ?_
    rintro e w2 ⟨rfl, rfl⟩
    go_wp2
    refine bodyPost_ret (results_te rfl rfl rfl hnew) rfl ?_
    exact ⟨rfl, hB⟩
  · have hlt : decide (r < 0) = false := decide_eq_false hneg
    have hge : decide ((ls.length : Int) ≤ r) = true := decide_eq_true (by omega)
    have hge2 : (ls.length : Int) ≤ r := by omega
    clear hr
    go_enter Try.func58, Try.ntmps58
    go_wp2_with fail
    refine (made_ _ B f ls (h.alloc _)).mono ?_
    rintro e w2 ⟨rfl, rfl⟩
    go_wp2
    refine bodyPost_ret (results_te rfl rfl rfl hnew) rfl ?_
    exact ⟨rfl, hB⟩
set_option maxRecDepth 100000 in
theorem tree_no (p : Option Addr) (h : NoFo w p) (r : Int) : Calls Try.prog 58 #[.pointer p, .int .i64 r] w fun e w' => e = .returned (.tuple #[.agg #[.pointer none], .int .i64 2]) ∧ Below w.heap.size w w' := by
  have hB : Below w.heap.size w (w.alloc (.cells #[.pointer none] 103)) := (Below.refl _ _).alloc (Nat.le_refl _) _
  have hnew := Blk.new w 103 #[.pointer none] rfl
  go_enter Try.func58, Try.ntmps58
  go_wp2_with fail
  refine (made_no _ p (h.below hB)).mono ?_
  rintro e w2 ⟨rfl, rfl⟩
  go_wp2
  refine bodyPost_ret (results_te rfl rfl rfl hnew) rfl ?_
  exact ⟨rfl, hB⟩
end
end Go.Proofs.Ytfcfffilfmbpeaa

set_option linter.all false
namespace Go.Proofs.Ytfcfffilfmbpeaa
open Go.RowKit

/-- The tree of a number. -/
def rootAt (ls : List Root) (r : Int) : Option Root := if 0 ≤ r ∧ r < ls.length then ls[r.toNat]? else none
theorem rootAt_nat (ls : List Root) (k : Nat) : rootAt ls (k : Int) = ls[k]? := by
  unfold rootAt
  by_cases h : k < ls.length
  · rw [if_pos (by omega)]; rfl
  · rw [if_neg (by omega), List.getElem?_eq_none (by omega)]
theorem rootAt_some {ls : List Root} {r : Int} {q : Root} (h : rootAt ls r = some q) : ∃ k : Nat, r = (k : Int) ∧ ls[k]? = some q := by
  unfold rootAt at h
  split at h
  · exact ⟨r.toNat, by omega, h⟩
  · cases h
theorem rootAt_none {ls : List Root} {r : Int} (h : rootAt ls r = none) : ¬ (0 ≤ r ∧ r < ls.length) := by
  intro hr
  unfold rootAt at h
  rw [if_pos hr, List.getElem?_eq_none_iff] at h
  omega
/-- What tree answers, of a forest. -/
def treeE (q : Option Root) : Int := match q with | some _ => 0 | none => 9
def treeA (q : Option Root) : Option Addr := match q with | some q => q.1 | none => none
def treeT (q : Option Root) : Tr := match q with | some q => q.2 | none => .nil
section
variable (w : World) (B f : Nat) (ls : List Root)
theorem tree_ (h : Fo w B f ls) (r : Int) : Calls Try.prog 58 #[.pointer (some ⟨f, 0, none⟩), .int .i64 r] w fun e w' => e = .returned (.tuple #[.agg #[.pointer (treeA (rootAt ls r))], .int .i64 (treeE (rootAt ls r))]) ∧ Below w.heap.size w w' := by
  cases hr : rootAt ls r with
  | none => exact tree_none w B f ls h r (rootAt_none hr)
  | some q =>
    obtain ⟨k, rfl, hk⟩ := rootAt_some hr
    exact tree_ok w B f ls h k q hk
theorem Fo.root {w : World} {B f : Nat} {ls : List Root} (h : Fo w B f ls) (r : Int) : Tree w All (treeA (rootAt ls r)) (treeT (rootAt ls r)) ∧ (treeT (rootAt ls r)).bal ∧ rightB (treeT (rootAt ls r)).list = true := by
  cases hr : rootAt ls r with
  | none => exact ⟨rfl, trivial, rfl⟩
  | some q =>
    obtain ⟨k, rfl, hk⟩ := rootAt_some hr
    exact h.trees q (List.mem_of_getElem? hk)

set_option maxRecDepth 100000 in
set_option maxHeartbeats 1000000 in
theorem treesF_ (h : Fo w B f ls) : Calls Try.prog 52 #[.pointer (some ⟨f, 0, none⟩)] w fun e w' => e = .returned (.int .i64 (ls.length : Int)) ∧ w = w' := by
  obtain ⟨b, c, c0, c1, hcc, -⟩ := h.cells
  go_enter Try.func52, Try.ntmps52
  go_wp2_with fail
  refine (made_ w B f ls h).mono ?_
  rintro e w2 ⟨rfl, rfl⟩
  go_wp2
  go_ret
  exact ⟨rfl, rfl⟩
/-- A list that was answered, and an error. -/
theorem gets {w w' : World} {v : Value} {m : Nat} {l : List Ext} {e : Int} (h : Eo w' w.heap.size v m l) (hm : mays l) (hb : Below w.heap.size w w') : Ans w w' (.returned (.tuple #[v, .int .i64 e])) e l := by
  obtain ⟨A, c, rfl, g⟩ := got_of h hm
  exact ⟨A, m, c, rfl, g, hb⟩
set_option maxRecDepth 100000 in
set_option maxHeartbeats 1000000 in
theorem listF_ (h : Fo w B f ls) (r : Int) (q : Root) (hq : rootAt ls r = some q) : Calls Try.prog 46 #[.pointer (some ⟨f, 0, none⟩), .int .i64 r] w fun e w' => Ans w w' e 0 q.2.list := by
  obtain ⟨hT, -, hr⟩ := h.root r
  have ht := tree_ w B f ls h r
  rw [hq] at hT hr ht
  obtain ⟨a, t⟩ := q
  simp only [treeA, treeT, treeE] at hT hr ht
  have hl := (right_is.1 hr).1
  have hz := size_small hr
  have HN := Lib.hid (show nearT t 0 1024 = t.list by rw [nearT_is hl, near_all hr])
  clear hq
  go_enter Try.func46, Try.ntmps46
  go_wp2_with fail
  refine ht.mono ?_
  rintro e w2 ⟨rfl, hb2⟩
  have hb3 := hb2.alloc hb2.size (.cells #[.pointer a] 103)
  clear ht
  go_wp2_with fail
  refine (near_ All 0 1024 (by unfold I64; omega) (by unfold I64; omega) t 0 hl a _ w.heap.size (.slice none 0 0) 0 [] (hT.below hb3) (eo_nil _ _) hb3.size (by omega)).mono ?_
  rintro e w4 ⟨v4, m4, rfl, ho4, ha4⟩
  have hb4 := hb3.trans (ha4.below hb3.size (by intro k hk; cases hk))
  rw [List.nil_append, HN.out] at ho4
  have hans := gets (e := 0) ho4 (mays_right hr) hb4
  obtain ⟨A4, c4, rfl, -, -, -⟩ := own_form ho4
  clear ho4 ha4 hb4
  go_wp2
  go_ret2
  exact hans
set_option maxRecDepth 100000 in
set_option maxHeartbeats 1000000 in
theorem listF_no (h : Fo w B f ls) (r : Int) (hq : rootAt ls r = none) : Calls Try.prog 46 #[.pointer (some ⟨f, 0, none⟩), .int .i64 r] w fun e w' => Ans w w' e 9 [] := by
  have ht := tree_ w B f ls h r
  rw [hq] at ht
  simp only [treeA, treeE] at ht
  clear hq
  go_enter Try.func46, Try.ntmps46
  go_wp2_with fail
  refine ht.mono ?_
  rintro e w2 ⟨rfl, hb2⟩
  have hb3 := hb2.alloc hb2.size (.cells #[.pointer none] 103)
  have hans := gets (w := w) (e := 9) (eo_nil _ w.heap.size) mays_nil hb3
  clear ht
  go_wp2
  go_ret2
  exact hans
theorem right_nil : rightB [] = true := rfl
end
end Go.Proofs.Ytfcfffilfmbpeaa
