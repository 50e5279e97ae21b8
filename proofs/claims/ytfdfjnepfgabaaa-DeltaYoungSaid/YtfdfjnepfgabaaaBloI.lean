/- Layer 8: lists of ops that a call makes; join. -/
import Derived.Test.YtfdfjnepfgabaaaBloH
set_option linter.all false
namespace Go.Proofs.Ytfdfjnepfgabaaa
open Go.RowKit
namespace Blo

abbrev ov4 (p : BOp × Value) : List Value := [.int .i64 p.1.kind, .int .i64 p.1.off, .int .i64 p.1.len, p.2]
def ovs (L : List (BOp × Value)) : List Value := L.flatMap ov4
theorem ovs_app (L L' : List (BOp × Value)) : ovs (L ++ L') = ovs L ++ ovs L' := by simp [ovs]
theorem ovs_snoc (L : List (BOp × Value)) (p : BOp × Value) : ovs (L ++ [p]) = ovs L ++ ov4 p := by rw [ovs_app]; simp [ovs]
theorem ovs_cons (p : BOp × Value) (L : List (BOp × Value)) : ovs (p :: L) = ov4 p ++ ovs L := rfl
theorem ovs_len : ∀ L : List (BOp × Value), (ovs L).length = L.length * 4
  | [] => rfl
  | p :: L => by rw [ovs_cons, List.length_append, ovs_len L, List.length_cons]; simp; omega
theorem ovs_at : ∀ {L : List (BOp × Value)} {k : Nat} (h : k < L.length) {j : Nat} (_ : j < 4), (ovs L)[k * 4 + j]? = (ov4 L[k])[j]?
  | p :: L, 0, _, j, hj => by
    rw [ovs_cons, List.getElem?_append_left (by simp; omega)]
    simp
  | p :: L, k + 1, h, j, hj => by
    rw [ovs_cons, List.getElem?_append_right (by simp; omega)]
    have e : (k + 1) * 4 + j - (ov4 p).length = k * 4 + j := by simp; omega
    rw [e, ovs_at (L := L) (by simpa using h) hj]
    simp
/-- v is a row of the call's own, of ops, whose numbers lie in rows of the call's own. -/
structure Ol (w : World) (base : Nat) (v : Value) (n : Nat) (L : List (BOp × Value)) : Prop where
  row : w.ownsRow base 76 4 v n (ovs L)
  data : ∀ p ∈ L, w.ownsRow base 51 1 p.2 p.1.data.length (nvs p.1.data)
  apart : L.Pairwise fun p q => ∀ g, p.2.ownBlock = some g → q.2.ownBlock ≠ some g
theorem Ol.len {w : World} {base : Nat} {v : Value} {n : Nat} {L : List (BOp × Value)} (h : Ol w base v n L) : n = L.length := by have := h.row.1; rw [ovs_len] at this; omega
theorem Ol.keep {w w' : World} {base : Nat} {v : Value} {n : Nat} {L : List (BOp × Value)} (h : Ol w base v n L) (hb : Below w.heap.size w w') : Ol w' base v n L := ⟨own_keep h.row hb, fun p hp => own_keep (h.data p hp) hb, h.apart⟩
theorem Ol.nil (w : World) (base : Nat) : Ol w base (.slice none 0 0) 0 [] := ⟨own_nil _ _ _ _, by simp, by simp⟩
theorem Ol.mono {w : World} {base base' : Nat} {v : Value} {n : Nat} {L : List (BOp × Value)} (h : Ol w base v n L) (hb : base' ≤ base) : Ol w base' v n L := ⟨h.row.mono hb, fun p hp => (h.data p hp).mono hb, h.apart⟩
/-- The last op: its cells, and what is written over them. -/
theorem ol_last {w : World} {base : Nat} {v : Value} {n : Nat} {P : List (BOp × Value)} {y : BOp} {dy : Value} (h : Ol w base v n (P ++ [(y, dy)])) : ∃ g cap cur, v = .slice (some ⟨g, 0, none⟩) n cap ∧ n ≤ cap ∧ cap ≤ maxLen ∧ base ≤ g ∧ n = P.length + 1 ∧ Blk w g 76 cur ∧
    w.cell? ⟨g, P.length * 4, none⟩ = some (.int .i64 y.kind) ∧ w.cell? ⟨g, P.length * 4 + 1, none⟩ = some (.int .i64 y.off) ∧ w.cell? ⟨g, P.length * 4 + 2, none⟩ = some (.int .i64 y.len) ∧ w.cell? ⟨g, P.length * 4 + 3, none⟩ = some dy ∧ (∀ j, w.frozen? ⟨g, j, none⟩ = false) := by
  have hl := h.len
  rw [List.length_append, List.length_singleton] at hl
  rcases h.row.2 with ⟨_, h0⟩ | ⟨g, cap, cur, rfl, hg, hh, hnc, hcm, hcs, hx⟩
  · omega
  have hb : Blk w g 76 cur := hh
  have hc : ∀ j (u : Value), (ov4 (y, dy))[j]? = some u → w.cell? ⟨g, P.length * 4 + j, none⟩ = some u := fun j u hu => by
    refine hb.cell ?_
    have h1 : (ovs (P ++ [(y, dy)]))[P.length * 4 + j]? = some u := by
      rw [ovs_snoc, List.getElem?_append_right (by rw [ovs_len]; omega), ovs_len, Nat.add_sub_cancel_left]
      exact hu
    rw [← hx, List.getElem?_take] at h1
    split at h1
    · simpa using h1
    · cases h1
  exact ⟨g, cap, cur, rfl, hnc, hcm, hg, hl, hb, hc 0 _ rfl, hc 1 _ rfl, hc 2 _ rfl, hc 3 _ rfl, fun j => hb.free _⟩
/-- A cell of the last op, written over. -/
theorem row_set {w : World} {base g cap n : Nat} {P : List (BOp × Value)} {y y' : BOp} {dy dy' : Value} (h : w.ownsRow base 76 4 (.slice (some ⟨g, 0, none⟩) n cap) n (ovs (P ++ [(y, dy)]))) (j : Nat) (u : Value) (hj : j < 4) (hu : (ov4 (y, dy)).set j u = ov4 (y', dy')) :
    (w.setCell ⟨g, P.length * 4 + j, none⟩ u).ownsRow base 76 4 (.slice (some ⟨g, 0, none⟩) n cap) n (ovs (P ++ [(y', dy')])) := by
  have hl := h.1
  rw [ovs_len, List.length_append, List.length_singleton] at hl
  rcases h.2 with ⟨e, _⟩ | ⟨g', cap', cur, e, hg, hh, hnc, hcm, hcs, hx⟩
  · cases e
  injection e with e _ e3
  injection e with e
  injection e with e
  subst e e3
  have hb : Blk w g 76 cur := hh
  refine ⟨by rw [ovs_len]; simp; omega, .inr ⟨g, cap, cur.setIfInBounds (P.length * 4 + j) u, rfl, hg, hb.setCell _ _, hnc, hcm, by simp [hcs], ?_⟩⟩
  rw [Array.toList_setIfInBounds, List.take_set, hx, ovs_snoc, ovs_snoc, List.set_append_right _ _ (by rw [ovs_len]; omega), ovs_len, Nat.add_sub_cancel_left, hu]
theorem ol_setLen {w : World} {base g cap n : Nat} {P : List (BOp × Value)} {y : BOp} {dy : Value} (h : Ol w base (.slice (some ⟨g, 0, none⟩) n cap) n (P ++ [(y, dy)])) (z : Int) : Ol (w.setCell ⟨g, P.length * 4 + 2, none⟩ (.int .i64 z)) base (.slice (some ⟨g, 0, none⟩) n cap) n (P ++ [({ y with len := z }, dy)]) := by
  have hne : ∀ p ∈ P ++ [(y, dy)], ∀ k, p.2.ownBlock = some k → some k ≠ some g := fun p hp k hk e => by
    injection e with e
    subst e
    exact own_ne h.row (h.data p hp) (by decide) (g := k) rfl hk
  refine ⟨row_set h.row 2 _ (by omega) rfl, fun p hp => ?_, ?_⟩
  · rcases List.mem_append.1 hp with hp | hp
    · exact own_grown (h.data p (by simp [hp])) (grown_setCell w ⟨g, P.length * 4 + 2, none⟩ (.int .i64 z)) (hne p (by simp [hp]))
    · rw [List.mem_singleton.1 hp]
      exact own_grown (h.data (y, dy) (by simp)) (grown_setCell w ⟨g, P.length * 4 + 2, none⟩ (.int .i64 z)) (hne (y, dy) (by simp))
  · have := List.pairwise_append.1 h.apart
    rw [List.pairwise_append]
    refine ⟨this.1, by simp, fun a ha b hb => ?_⟩
    rw [List.mem_singleton.1 hb]
    exact this.2.2 a ha (y, dy) (by simp)
theorem ol_setDat {w w' : World} {base g cap n : Nat} {P : List (BOp × Value)} {y y' : BOp} {dy d' : Value} (h : Ol w base (.slice (some ⟨g, 0, none⟩) n cap) n (P ++ [(y, dy)])) (hg : w.grownBy w' dy.ownBlock) (hd : w'.ownsRow base 51 1 d' y'.data.length (nvs y'.data)) (hat : d'.ownBlock = dy.ownBlock ∨ ∀ k, d'.ownBlock = some k → w.heap.size ≤ k)
    (h1 : y'.kind = y.kind) (h2 : y'.off = y.off) (h3 : y'.len = y.len) : Ol (w'.setCell ⟨g, P.length * 4 + 3, none⟩ d') base (.slice (some ⟨g, 0, none⟩) n cap) n (P ++ [(y', d')]) := by
  have hap := List.pairwise_append.1 h.apart
  have hrow : w'.ownsRow base 76 4 (.slice (some ⟨g, 0, none⟩) n cap) n (ovs (P ++ [(y, dy)])) := own_grown h.row hg (fun k hk e => own_ne h.row (h.data (y, dy) (by simp)) (by decide) hk e.symm)
  have hdat : ∀ p ∈ P, w'.ownsRow base 51 1 p.2 p.1.data.length (nvs p.1.data) := fun p hp => own_grown (h.data p (by simp [hp])) hg (fun k hk e => hap.2.2 p hp (y, dy) (by simp) k hk e.symm)
  have hne : ∀ {v : Value} {m : Nat} {xs : List Value}, w'.ownsRow base 51 1 v m xs → ∀ k, v.ownBlock = some k → some k ≠ some g := fun hv k hk e => by
    injection e with e
    subst e
    exact own_ne hrow hv (by decide) (g := k) rfl hk
  refine ⟨row_set hrow 3 _ (by omega) (by simp [h1, h2, h3]), fun p hp => ?_, ?_⟩
  · rcases List.mem_append.1 hp with hp | hp
    · exact own_grown (hdat p hp) (grown_setCell w' ⟨g, P.length * 4 + 3, none⟩ d') (hne (hdat p hp))
    · rw [List.mem_singleton.1 hp]
      exact own_grown hd (grown_setCell w' ⟨g, P.length * 4 + 3, none⟩ d') (hne hd)
  · rw [List.pairwise_append]
    refine ⟨hap.1, by simp, fun a ha b hb k hk => ?_⟩
    rw [List.mem_singleton.1 hb]
    rcases hat with e | e
    · simp only
      rw [e]
      exact hap.2.2 a ha (y, dy) (by simp) k hk
    · intro q
      have h5 := e k q
      have h6 := ((h.data a (by simp [ha])).lt k hk).2
      omega
/-- An op more. -/
theorem ol_push {w w' : World} {base : Nat} {v v' : Value} {n : Nat} {L : List (BOp × Value)} {y : BOp} {dy : Value} (h : Ol w base v n L) (hg : w.grownBy w' v.ownBlock) (hr : w'.ownsRow base 76 4 v' (n + 1) (ovs L ++ ov4 (y, dy))) (hd : w.ownsRow base 51 1 dy y.data.length (nvs y.data)) (hap : ∀ p ∈ L, ∀ g, p.2.ownBlock = some g → dy.ownBlock ≠ some g) : Ol w' base v' (n + 1) (L ++ [(y, dy)]) := by
  have hne : ∀ {u : Value} {m : Nat} {xs : List Value}, w.ownsRow base 51 1 u m xs → ∀ k, u.ownBlock = some k → some k ≠ v.ownBlock := fun hu k hk e => own_ne h.row hu (by decide) e.symm hk
  refine ⟨by rw [ovs_snoc]; exact hr, fun p hp => ?_, ?_⟩
  · rcases List.mem_append.1 hp with hp | hp
    · exact own_grown (h.data p hp) hg (hne (h.data p hp))
    · rw [List.mem_singleton.1 hp]
      exact own_grown hd hg (hne hd)
  · rw [List.pairwise_append]
    refine ⟨h.apart, by simp, fun a ha b hb => ?_⟩
    rw [List.mem_singleton.1 hb]
    exact hap a ha
theorem info_op : (Try.prog.info? 76).map (fun i => (i.zero, i.size, i.bytes)) = some (some (.agg #[.int .i64 0, .int .i64 0, .int .i64 0, .slice none 0 0]), 4, 48) := by kernel_rfl
theorem op_info : ∃ i, Try.prog.info? 76 = some i ∧ i.zero = some (.agg #[.int .i64 0, .int .i64 0, .int .i64 0, .slice none 0 0]) ∧ i.size = 4 ∧ i.bytes = 48 := by
  obtain ⟨i, hi, he⟩ := Option.map_eq_some_iff.1 info_op
  simp only [Prod.mk.injEq] at he
  exact ⟨i, hi, he.1, he.2.1, he.2.2⟩
theorem snoc_cases {α : Type} (l : List α) : l = [] ∨ ∃ p y, l = p ++ [y] := by
  rcases List.eq_nil_or_concat l with h | ⟨p, y, h⟩
  · exact .inl h
  · exact .inr ⟨p, y, by simpa using h⟩
/-- An op that is told: its numbers are small. -/
structure Sml (o : BOp) : Prop where
  fit : FitB o
  low : ∀ z ∈ o.data, z < 18446744073709551616
  short : o.data.length ≤ 64
  rng : I64 (o.from_ + o.cnt)
  lenB : -2000 ≤ o.len ∧ o.len ≤ 2000
theorem sml_of {o : BOp} {n : Int} (h : o.Ok n) (hn : n ≤ 1024) (hl : ∀ z ∈ o.data, z < 18446744073709551616) : Sml o := by
  have h1 := h.low
  have h2 := h.high
  have h3 := h.some
  have h4 : o.from_ = o.off := from_ok h
  rcases h.form with ⟨k1, k2, k3⟩ | ⟨k1, k2⟩
  · refine ⟨⟨?_, ?_, ?_⟩, hl, k3, ?_, ?_⟩ <;> (try unfold I64) <;> omega
  · have hc : o.cnt = o.len := by unfold BOp.cnt; rw [if_neg (by omega), if_pos k1]
    refine ⟨⟨?_, ?_, ?_⟩, hl, by rw [k2]; simp, ?_, ?_⟩ <;> (try unfold I64) <;> omega
theorem dat_own {w : World} {base : Nat} {o : BOp} {A : Option Addr} {m c : Nat} (h : w.ownsRow base 51 1 (.slice A m c) m (nvs o.data)) (ho : Sml o) : Dat w o A m c := by
  have hm : m = o.data.length := by have := h.1; rw [nvs_length] at this; omega
  obtain ⟨A', c', e, h1, h2, h3⟩ := own_form h
  injection e with e1 _ e3
  subst e1 e3
  have := ho.short
  exact ⟨no_ns h ho.low, h3, h1, by unfold maxLen at h2; omega, by omega, ho.fit⟩
def mergeO (y o : BOp) : BOp := { y with len := y.len + o.len, data := y.data ++ o.data }
def joinS (l : List BOp) (o : BOp) : List BOp := match l.getLast? with
  | some y => if oneB y o then l.dropLast ++ [mergeO y o] else l ++ [o]
  | none => l ++ [o]
theorem joinS_nil (o : BOp) : joinS [] o = [o] := rfl
theorem joinS_snoc (p : List BOp) (y o : BOp) : joinS (p ++ [y]) o = if oneB y o then p ++ [mergeO y o] else (p ++ [y]) ++ [o] := by
  unfold joinS
  simp
end Blo
end Go.Proofs.Ytfdfjnepfgabaaa
