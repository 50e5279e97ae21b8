/- Layer 16: what layer 15's bag and the document's have in common: mathematics. -/
import Derived.Test.YtlmaelbalmjlbaaNetK
import Derived.Test.YtlmaelbalmjlbaaNum
set_option linter.all false
namespace Go.Proofs.Ytlmaelbalmjlbaa
open Go.RowKit
namespace Net
theorem gv_one (A : Option Addr) (n c : Nat) (g : Gr) : ∀ u ∈ gv (.slice A n c, g), u.oneCell' = true := by
  intro u hu
  simp only [gv, List.mem_cons, List.not_mem_nil, or_false] at hu
  rcases hu with rfl | rfl <;> rfl
theorem gvs_one {L : List (Value × Gr)} (h : ∀ p ∈ L, ∃ X n c, p.1 = .slice X n c) : ∀ u ∈ gvs L, u.oneCell' = true := by
  intro u hu
  obtain ⟨p, hp, hu⟩ := List.mem_flatMap.1 hu
  obtain ⟨X, n, c, e⟩ := h p hp
  simp only [gv, e, List.mem_cons, List.not_mem_nil, or_false] at hu
  rcases hu with rfl | rfl <;> rfl
theorem take_snoc {α : Type} {l : List α} {k : Nat} {x : α} (h : l[k]? = some x) : l.take (k + 1) = l.take k ++ [x] := by
  obtain ⟨hk, rfl⟩ := List.getElem?_eq_some_iff.1 h
  exact List.take_succ_eq_append_getElem hk
theorem erase_map (L : List (Value × Gr)) (k : Nat) : (L.map (·.2)).eraseIdx k = (L.eraseIdx k).map (·.2) := by
  rw [List.eraseIdx_eq_take_drop_succ, List.eraseIdx_eq_take_drop_succ, List.map_append, List.map_take, List.map_drop]
theorem getG_map {L : List (Value × Gr)} {k : Nat} (hk : k < L.length) : getG (L.map (·.2)) (k : Int) = L[k].2 := by
  unfold getG
  rw [Int.toNat_natCast, List.getD, List.getElem?_map, List.getElem?_eq_getElem hk]
  rfl
theorem twice_of {l : List Gr} {i : Int} (h : hasB l i = true) : twiE l i = (if 256 ≤ l.length then 6 else 0) ∧ twiS l i = (if 256 ≤ l.length then l else l ++ [getG l i]) := by
  unfold twiE twiS
  rw [if_pos h, if_pos h]
  exact ⟨rfl, rfl⟩
theorem twice_no {l : List Gr} {i : Int} (h : hasB l i = false) : twiE l i = 9 ∧ twiS l i = l := by
  unfold twiE twiS
  rw [h]
  exact ⟨rfl, rfl⟩
theorem turn_no {l : List Gr} {i z : Int} {y : UInt8} (h : ¬ turE l i z y = 0) : turS l i z y = l := by unfold turS; rw [if_neg h]
theorem turn_at {l : List Gr} {i z : Int} {y : UInt8} (h : hasB l i = true) : turE l i z y = (if (getG l i).s then 10 else if (getG l i).b.length = 0 ∨ y = 0 then 1 else 0) := by unfold turE; rw [if_pos h]
theorem turn_none {l : List Gr} {i z : Int} {y : UInt8} (h : hasB l i = false) : turE l i z y = 9 := by unfold turE; rw [h]; rfl
theorem row_cell {w : World} {B g n c sz o : Nat} {e : TypeId} {xs : List Value} (h : w.ownsRow B e sz (.slice (some ⟨g, 0, none⟩) n c) n xs) (u : Value) (ho : o < n * sz) : (w.setCell ⟨g, o, none⟩ u).ownsRow B e sz (.slice (some ⟨g, 0, none⟩) n c) n (xs.set o u) := by
  refine ⟨by rw [List.length_set]; exact h.1, ?_⟩
  rcases h.2 with ⟨e1, _⟩ | ⟨g', cap', cur, e1, hg, hh, hnc, hcm, hcs, hx⟩
  · cases e1
  · injection e1 with e1 _ e3
    injection e1 with e1
    injection e1 with e1
    subst e1 e3
    have hb : Blk w g e cur := hh
    exact .inr ⟨g, c, cur.setIfInBounds o u, rfl, hg, hb.setCell _ _, hnc, hcm, by simp [hcs], by rw [Array.toList_setIfInBounds, List.take_set, hx]⟩
theorem at_is {n : Nat} (h : 0 < n) (z : Int) : (if z.tmod n < 0 then z.tmod n + n else z.tmod n) = (atN n z : Int) := by
  have hb := tmod_bounds z n h
  unfold atN
  have h2 := Int.tmod_nonneg (n : Int) (show 0 ≤ z.tmod n + n by omega)
  split
  · have : (z.tmod n + n).tmod n = z.tmod n + n := Int.tmod_eq_of_lt (by omega) (by omega)
    omega
  · have : (z.tmod n + n).tmod n = z.tmod n := by
      rw [Int.tmod_eq_emod_of_nonneg (by omega), Int.add_emod_right, Int.emod_eq_of_lt (by omega) (by omega)]
    omega
theorem gvs_turn (pre post : List (Value × Gr)) (x : Value) (d d' : List UInt8) (s s' : Bool) : (gvs (pre ++ (x, (⟨d, s⟩ : Gr)) :: post)).set (pre.length * 2 + 1) (.bool s') = gvs (pre ++ (x, (⟨d', s'⟩ : Gr)) :: post) := by
  rw [gvs_app, gvs_app, gvs_cons, gvs_cons, List.set_append_right _ _ (by rw [gvs_len]; omega), gvs_len, Nat.add_sub_cancel_left]
  rfl
theorem bss_one {w : World} {m : Nat} {t : TypeId} {X : Option Addr} {n c : Nat} {d : List UInt8} (h : Blk w m t #[.slice X n c]) (hb : Bs w X n d) (hn : n ≤ c) (hc : c ≤ 9223372036854775807) : Bss w (some ⟨m, 0, none⟩) 1 [d] :=
  ⟨rfl, fun j hj => by
    obtain rfl : j = 0 := by simp at hj; omega
    exact ⟨m, 0, X, n, c, rfl, h.cell rfl, hn, hc, hb⟩⟩
end Net
end Go.Proofs.Ytlmaelbalmjlbaa
