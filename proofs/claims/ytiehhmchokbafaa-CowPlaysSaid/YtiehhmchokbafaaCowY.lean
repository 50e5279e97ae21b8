/- Layer 7: the mathematics of a list in which what is near some blocks is turned, and all else stays. Nothing of the program is named here. -/
import Derived.Test.YtiehhmchokbafaaCowX
import Derived.Test.YtiehhmchokbafaaCowQ
set_option linter.all false
namespace Go.Proofs.Ytiehhmchokbafaa
open Go.RowKit

theorem listFrom_pairs : ∀ {A B : List Ext} {lo : Int}, listFrom lo (A ++ B) = true → ∀ a ∈ A, ∀ b ∈ B, a.off + a.len ≤ b.off
  | x :: A, B, lo, h, a, ha, b, hb => by
    rw [List.cons_append, listFrom_cons] at h
    rcases List.mem_cons.1 ha with rfl | ha
    · exact (listFrom_mem h.2.2 b (List.mem_append_right _ hb)).2
    · exact listFrom_pairs h.2.2 a ha b hb
theorem listFrom_join : ∀ {A B : List Ext} {lo lo' : Int}, listFrom lo A = true → listFrom lo' B = true → (∀ a ∈ A, ∀ b ∈ B, a.off + a.len ≤ b.off) → (∀ b ∈ B, lo ≤ b.off) → listFrom lo (A ++ B) = true
  | [], B, lo, lo', _, h2, _, h4 => by
    cases B with
    | nil => rfl
    | cons b r => rw [listFrom_cons] at h2; rw [List.nil_append, listFrom_cons]; exact ⟨h2.1, h4 b List.mem_cons_self, h2.2.2⟩
  | a :: A, B, lo, lo', h1, h2, h3, h4 => by
    rw [listFrom_cons] at h1
    rw [List.cons_append, listFrom_cons]
    exact ⟨h1.1, h1.2.1, listFrom_join h1.2.2 h2 (fun x hx => h3 x (List.mem_cons_of_mem _ hx)) (h3 a List.mem_cons_self)⟩
theorem alone_pair : ∀ {l : List Ext} {lo : Int}, listFrom lo l = true → aloneB l = true → ∀ x ∈ l, ∀ y ∈ l, oneB x y = false
  | z :: r, lo, h, ha, x, hx, y, hy => by
    have h0 := h
    rw [listFrom_cons] at h
    have hz := may_len h.1
    cases ho : oneB x y with
    | false => rfl
    | true =>
      exfalso
      obtain ⟨o1, o2, o3⟩ := one_is ho
      have hym : y.may = true := (listFrom_mem h0 y hy).1
      have hyl := may_len hym
      rcases List.mem_cons.1 hx with rfl | hx'
      · refine at_stop h0 ha ?_
        rw [at_mem h0 hy (has_iff.2 (by omega)), o2, o3]
        simp only [Option.some.injEq, Prod.mk.injEq, and_true]
        omega
      · have hxm := listFrom_mem h.2.2 x hx'
        have hxl := may_len hxm.1
        rcases List.mem_cons.1 hy with rfl | hy'
        · omega
        · have := alone_pair h.2.2 (alone_tail ha) x hx' y hy'
          rw [ho] at this
          cases this
theorem pair_alone : ∀ {l : List Ext}, (∀ x ∈ l, ∀ y ∈ l, oneB x y = false) → aloneB l = true
  | [], _ => rfl
  | [_], _ => rfl
  | x :: y :: r, h => by
    have h1 := h x List.mem_cons_self y (List.mem_cons_of_mem _ List.mem_cons_self)
    have h2 := pair_alone (l := y :: r) fun a ha b hb => h a (List.mem_cons_of_mem _ ha) b (List.mem_cons_of_mem _ hb)
    simp only [aloneB, h1, Bool.not_false, Bool.true_and] at h2 ⊢
    exact h2
theorem three_parts : ∀ {l : List Ext} {lo b e : Int}, listFrom lo l = true → b ≤ e → l = l.filter (isBelow b) ++ (l.filter (isNear b e) ++ l.filter (isAbove e))
  | [], _, _, _, _, _ => rfl
  | x :: r, lo, b, e, h, hbe => by
    rw [listFrom_cons] at h
    have hx := may_len h.1
    have ih := three_parts h.2.2 hbe
    have hlate : ∀ y ∈ r, x.off + x.len ≤ y.off ∧ 1 ≤ y.len := fun y hy => by have := listFrom_mem h.2.2 y hy; have h2 := may_len this.1; omega
    rw [List.filter_cons, List.filter_cons, List.filter_cons]
    by_cases c1 : x.off + x.len < b
    · have e1 : isBelow b x = true := by simp [isBelow, c1]
      have e2 : isNear b e x = false := by simp only [isNear, decide_eq_false_iff_not]; omega
      have e3 : isAbove e x = false := by simp only [isAbove, decide_eq_false_iff_not]; omega
      rw [e1, e2, e3]
      simp only [if_true, Bool.false_eq_true, if_false, List.cons_append]
      rw [← ih]
    · have n1 : r.filter (isBelow b) = [] := filter_none fun y hy => by have := hlate y hy; simp only [isBelow, decide_eq_false_iff_not]; omega
      have e1 : isBelow b x = false := by simp [isBelow, c1]
      rw [n1, List.nil_append] at ih
      by_cases c3 : e < x.off
      · have n2 : r.filter (isNear b e) = [] := filter_none fun y hy => by have := hlate y hy; simp only [isNear, decide_eq_false_iff_not]; omega
        have e2 : isNear b e x = false := by simp only [isNear, decide_eq_false_iff_not]; omega
        have e3 : isAbove e x = true := by simp [isAbove, c3]
        rw [n2, List.nil_append] at ih
        rw [e1, e2, e3, n1, n2]
        simp only [if_true, Bool.false_eq_true, if_false, List.nil_append]
        rw [← ih]
      · have e2 : isNear b e x = true := by simp only [isNear, decide_eq_true_eq]; omega
        have e3 : isAbove e x = false := by simp [isAbove, c3]
        rw [e1, e2, e3, n1]
        simp only [if_true, Bool.false_eq_true, if_false, List.nil_append, List.cons_append]
        rw [← ih]
theorem at_three (A B C : List Ext) (i : Int) : atL (A ++ (B ++ C)) i = match atL A i with | some v => some v | none => match atL B i with | some v => some v | none => atL C i := by
  rw [at_app, at_app]
  cases atL A i <;> rfl
/-- What is near turned, all else as it was. -/
theorem turned {l m : List Ext} {b e : Int} (h : rightB l = true) (hm : rightB m = true) (hbe : b ≤ e) (hi : ∀ i, ¬ (b ≤ i ∧ i < e) → atL m i = atL (l.filter (isNear b e)) i) :
    rightB (l.filter (isBelow b) ++ (m ++ l.filter (isAbove e))) = true ∧ ∀ i, atL (l.filter (isBelow b) ++ (m ++ l.filter (isAbove e))) i = if b ≤ i ∧ i < e then atL m i else atL l i := by
  have h1 := (right_is.1 h).1
  have h2 := (right_is.1 h).2
  have m1 := (right_is.1 hm).1
  have m2 := (right_is.1 hm).2
  have hsp := three_parts h1 hbe
  have hpair := alone_pair h1 h2
  generalize hP : l.filter (isBelow b) = P at *
  generalize hN : l.filter (isNear b e) = N at *
  generalize hQ : l.filter (isAbove e) = Q at *
  have h1s := h1
  rw [hsp] at h1s
  obtain ⟨hP1, hNQ⟩ := listFrom_split h1s
  obtain ⟨hN1, hQ1⟩ := listFrom_split hNQ
  have pPNQ := listFrom_pairs h1s
  have pNQ := listFrom_pairs hNQ
  have inP : ∀ x ∈ P, x ∈ l ∧ x.off + x.len < b := fun x hx => by rw [← hP] at hx; have := List.mem_filter.1 hx; exact ⟨this.1, by simpa [isBelow] using this.2⟩
  have inN : ∀ x ∈ N, x ∈ l := fun x hx => by rw [← hN] at hx; exact (List.mem_filter.1 hx).1
  have inQ : ∀ x ∈ Q, x ∈ l ∧ e < x.off := fun x hx => by rw [← hQ] at hx; have := List.mem_filter.1 hx; exact ⟨this.1, by simpa [isAbove] using this.2⟩
  have mayM : ∀ x ∈ m, 1 ≤ x.len := fun x hx => (may_len (listFrom_mem m1 x hx).1).1
  have mayN : ∀ x ∈ N, 1 ≤ x.len := fun x hx => (may_len (listFrom_mem hN1 x hx).1).1
  have mayP : ∀ x ∈ P, 1 ≤ x.len := fun x hx => (may_len (listFrom_mem hP1 x hx).1).1
  have old : ∀ x ∈ m, ∀ i, x.off ≤ i → i < x.off + x.len → ¬ (b ≤ i ∧ i < e) → ∃ n ∈ N, n.off ≤ i ∧ i < n.off + n.len ∧ n.phys + i - n.off = x.phys + i - x.off ∧ n.birth = x.birth := fun x hx i i1 i2 i3 => by
    have e1 := at_mem m1 hx (has_iff.2 ⟨i1, i2⟩)
    rw [hi i i3] at e1
    obtain ⟨n, hn, hh⟩ := at_some e1
    have e2 := at_mem hN1 hn hh
    rw [e1] at e2
    simp only [Option.some.injEq, Prod.mk.injEq] at e2
    have h3 := has_iff.1 hh
    exact ⟨n, hn, h3.1, h3.2, by omega, e2.2.symm⟩
  have sPM : ∀ p ∈ P, ∀ x ∈ m, p.off + p.len ≤ x.off ∧ oneB p x = false := fun p hp x hx => by
    have p1 := inP p hp
    have l1 := mayM x hx
    by_cases c : b ≤ x.off
    · exact ⟨by omega, one_gap (by omega)⟩
    · obtain ⟨n, hn, n1, n2, n3, n4⟩ := old x hx x.off (Int.le_refl _) (by omega) (by omega)
      have p2 := pPNQ p hp n (List.mem_append_left _ hn)
      refine ⟨by omega, ?_⟩
      cases ho : oneB p x with
      | false => rfl
      | true =>
        obtain ⟨o1, o2, o3⟩ := one_is ho
        have := hpair p p1.1 n (inN n hn)
        rw [one_yes (by omega) (by omega) (by omega)] at this
        cases this
  have sMQ : ∀ x ∈ m, ∀ q ∈ Q, x.off + x.len ≤ q.off ∧ oneB x q = false := fun x hx q hq => by
    have q1 := inQ q hq
    have l1 := mayM x hx
    by_cases c : x.off + x.len ≤ e
    · exact ⟨by omega, one_gap (by omega)⟩
    · obtain ⟨n, hn, n1, n2, n3, n4⟩ := old x hx (x.off + x.len - 1) (by omega) (by omega) (by omega)
      have p2 := pNQ n hn q hq
      refine ⟨by omega, ?_⟩
      cases ho : oneB x q with
      | false => rfl
      | true =>
        obtain ⟨o1, o2, o3⟩ := one_is ho
        have := hpair n (inN n hn) q q1.1
        rw [one_yes (by omega) (by omega) (by omega)] at this
        cases this
  have sPQ : ∀ p ∈ P, ∀ q ∈ Q, p.off + p.len ≤ q.off ∧ oneB p q = false := fun p hp q hq => by
    have p1 := inP p hp
    have q1 := inQ q hq
    exact ⟨by omega, one_gap (by omega)⟩
  have mQ1 : listFrom 0 (m ++ Q) = true := listFrom_join m1 hQ1 (fun x hx q hq => (sMQ x hx q hq).1) fun q hq => (listFrom_mem hQ1 q hq).2
  have mQ2 : aloneB (m ++ Q) = true := alone_app m2 (pair_alone fun x hx y hy => hpair x (inQ x hx).1 y (inQ y hy).1) fun x hx q hq => (sMQ x hx q hq).2
  have seam : ∀ p ∈ P, ∀ y ∈ m ++ Q, p.off + p.len ≤ y.off ∧ oneB p y = false := fun p hp y hy => by
    rcases List.mem_append.1 hy with hy | hy
    · exact sPM p hp y hy
    · exact sPQ p hp y hy
  refine ⟨right_is.2 ⟨listFrom_join hP1 mQ1 (fun p hp y hy => (seam p hp y hy).1) fun y hy => (listFrom_mem mQ1 y hy).2, alone_app (pair_alone fun x hx y hy => hpair x (inP x hx).1 y (inP y hy).1) mQ2 fun p hp y hy => (seam p hp y hy).2⟩, fun i => ?_⟩
  rw [at_three]
  by_cases c : b ≤ i ∧ i < e
  · rw [if_pos c]
    have eP : atL P i = none := at_none fun x hx => by
      have := inP x hx
      cases hh : x.has i with
      | false => rfl
      | true => have := has_iff.1 hh; omega
    have eQ : atL Q i = none := at_none fun x hx => by
      have := inQ x hx
      cases hh : x.has i with
      | false => rfl
      | true => have := has_iff.1 hh; omega
    rw [eP, eQ]
    cases atL m i <;> rfl
  · rw [if_neg c, hi i c, ← at_three, ← hsp]
theorem near_right {l : List Ext} {b e : Int} (h : rightB l = true) (hbe : b ≤ e) : rightB (l.filter (isNear b e)) = true := by
  have h1 := (right_is.1 h).1
  have hsp := three_parts h1 hbe
  have h1s := h1
  rw [hsp] at h1s
  have hN := (listFrom_split (listFrom_split h1s).2).1
  exact right_is.2 ⟨hN, pair_alone fun x hx y hy => alone_pair h1 (right_is.1 h).2 x (List.mem_filter.1 hx).1 y (List.mem_filter.1 hy).1⟩
theorem turned_put {l : List Ext} {x : Ext} (h : rightB l = true) (hx : x.may = true) :
    l.filter (isBelow x.off) ++ putL (l.filter (isNear x.off (x.off + x.len))) x ++ l.filter (isAbove (x.off + x.len)) = putL l x := by
  have hl := may_len hx
  have hN := near_right (e := x.off + x.len) (b := x.off) h (by omega)
  obtain ⟨p1, p2⟩ := put_is hN hx
  obtain ⟨q1, q2⟩ := put_is h hx
  obtain ⟨t1, t2⟩ := turned (b := x.off) (e := x.off + x.len) h p1 (by omega) fun i hi => by rw [p2, if_neg hi]
  rw [List.append_assoc]
  refine form_is t1 q1 fun i _ _ => ?_
  rw [t2, q2]
  by_cases c : x.off ≤ i ∧ i < x.off + x.len
  · rw [if_pos c, if_pos c, p2, if_pos c]
  · rw [if_neg c, if_neg c]
theorem turned_cut {l : List Ext} {off n : Int} (h : rightB l = true) (hr : rangeB off n = true) :
    l.filter (isBelow off) ++ cutL (l.filter (isNear off (off + n))) off n ++ l.filter (isAbove (off + n)) = cutL l off n := by
  have hl : 0 ≤ off ∧ 1 ≤ n := by simp only [rangeB, Bool.and_eq_true, decide_eq_true_eq] at hr; omega
  have hN := near_right (e := off + n) (b := off) h (by omega)
  obtain ⟨p1, p2⟩ := cut_is hN hr
  obtain ⟨q1, q2⟩ := cut_is h hr
  obtain ⟨t1, t2⟩ := turned (b := off) (e := off + n) h p1 (by omega) fun i hi => by rw [p2, if_neg hi]
  rw [List.append_assoc]
  refine form_is t1 q1 fun i _ _ => ?_
  rw [t2, q2]
  by_cases c : off ≤ i ∧ i < off + n
  · rw [if_pos c, if_pos c, p2, if_pos c]
  · rw [if_neg c, if_neg c]
theorem part_near {l : List Ext} {b e : Int} (h : rightB l = true) (hbe : b ≤ e) : partL (l.filter (isNear b e)) b e = partL l b e := by
  have hsp := three_parts (right_is.1 h).1 hbe
  conv => rhs; rw [hsp]
  rw [part_app, part_app, part_out (l := l.filter (isBelow b)) fun x hx => by have := (List.mem_filter.1 hx).2; simp only [isBelow, decide_eq_true_eq] at this; omega,
    part_out (l := l.filter (isAbove e)) fun x hx => by have := (List.mem_filter.1 hx).2; simp only [isAbove, decide_eq_true_eq] at this; omega]
  simp
theorem near_all {l : List Ext} (h : rightB l = true) : l.filter (isNear 0 1024) = l := filter_all fun x hx => by
  have := may_len (listFrom_mem (right_is.1 h).1 x hx).1
  simp only [isNear, decide_eq_true_eq]
  omega

/-! ### how long what comes is -/
theorem part_lo_len : ∀ {l : List Ext} {lo b : Int}, listFrom lo l = true → (∀ x ∈ l, b ≤ x.off + x.len) → (partL l 0 b).length ≤ 1
  | [], _, _, _, _ => Nat.zero_le _
  | x :: r, lo, b, h, hb => by
    rw [listFrom_cons] at h
    have hx := may_len h.1
    have hr : partL r 0 b = [] := part_out fun y hy => by have := listFrom_mem h.2.2 y hy; have := hb x List.mem_cons_self; omega
    rw [part_cons, hr]
    split <;> simp
theorem part_hi_len : ∀ {l : List Ext} {lo e : Int}, listFrom lo l = true → (∀ x ∈ l, x.off ≤ e) → (partL l e 1024).length ≤ 1
  | [], _, _, _, _ => Nat.zero_le _
  | x :: r, lo, e, h, he => by
    rw [listFrom_cons] at h
    have hx := may_len h.1
    by_cases c : x.off + x.len ≤ e
    · have : clip x e 1024 = none := by unfold clip; rw [if_neg (by omega)]
      rw [part_cons, this]
      exact part_hi_len h.2.2 fun y hy => he y (List.mem_cons_of_mem _ hy)
    · cases r with
      | nil => rw [part_cons]; split <;> simp [partL]
      | cons y r =>
        have h1 := listFrom_mem h.2.2 y List.mem_cons_self
        have h2 := he y (List.mem_cons_of_mem _ List.mem_cons_self)
        omega
theorem fold_len : ∀ (l p : List Ext), (l.foldl pushL p).length ≤ p.length + l.length
  | [], _ => Nat.le_refl _
  | x :: l, p => by
    have h1 := fold_len l (pushL p x)
    have h2 := push_length p x
    simp only [List.foldl_cons, List.length_cons]
    omega
theorem join_len (l : List Ext) : (joinL l).length ≤ l.length := by
  rw [← fold_join]
  have := fold_len l []
  simpa using this
theorem near_put_len {l : List Ext} {x : Ext} (h : rightB l = true) (hx : x.may = true) : (putL (l.filter (isNear x.off (x.off + x.len))) x).length ≤ 3 := by
  have hl := may_len hx
  have hN := (right_is.1 (near_right (e := x.off + x.len) (b := x.off) h (by omega))).1
  have hin : ∀ y ∈ l.filter (isNear x.off (x.off + x.len)), x.off ≤ y.off + y.len ∧ y.off ≤ x.off + x.len := fun y hy => by simpa [isNear] using (List.mem_filter.1 hy).2
  have h1 := part_lo_len (b := x.off) hN fun y hy => (hin y hy).1
  have h2 := part_hi_len (e := x.off + x.len) hN fun y hy => (hin y hy).2
  have h3 := join_len (partL (l.filter (isNear x.off (x.off + x.len))) 0 x.off ++ x :: partL (l.filter (isNear x.off (x.off + x.len))) (x.off + x.len) 1024)
  simp only [List.length_append, List.length_cons] at h3
  unfold putL
  omega
theorem near_cut_len {l : List Ext} {off n : Int} (h : rightB l = true) (hr : rangeB off n = true) : (cutL (l.filter (isNear off (off + n))) off n).length ≤ 3 := by
  have hl : 0 ≤ off ∧ 1 ≤ n := by simp only [rangeB, Bool.and_eq_true, decide_eq_true_eq] at hr; omega
  have hN := (right_is.1 (near_right (e := off + n) (b := off) h (by omega))).1
  have hin : ∀ y ∈ l.filter (isNear off (off + n)), off ≤ y.off + y.len ∧ y.off ≤ off + n := fun y hy => by simpa [isNear] using (List.mem_filter.1 hy).2
  have h1 := part_lo_len (b := off) hN fun y hy => (hin y hy).1
  have h2 := part_hi_len (e := off + n) hN fun y hy => (hin y hy).2
  unfold cutL
  simp only [List.length_append]
  omega
end Go.Proofs.Ytiehhmchokbafaa
