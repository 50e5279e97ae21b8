/- Layer 15: a bag: Turn. -/
import Derived.Test.YtallbhdfbkkjkaaNetR
import Derived.Laws.BitsAllLaws
set_option linter.all false
namespace Go.Proofs.Ytallbhdfbkkjkaa
open Go.RowKit
namespace Net
/-- A cell of a row, of elements of any size, written over. -/
theorem row_cell {w : World} {B g n c sz o : Nat} {e : TypeId} {xs : List Value} (h : w.ownsRow B e sz (.slice (some ⟨g, 0, none⟩) n c) n xs) (u : Value) (ho : o < n * sz) : (w.setCell ⟨g, o, none⟩ u).ownsRow B e sz (.slice (some ⟨g, 0, none⟩) n c) n (xs.set o u) := by
  refine ⟨by rw [List.length_set]; exact h.1, ?_⟩
  rcases h.2 with ⟨e1, _⟩ | ⟨g', cap', cur, e1, hg, hh, hnc, hcm, hcs, hx⟩
  · cases e1
  · injection e1 with e1 _ e3
    injection e1 with e1
    injection e1 with e1
    subst e1 e3
    have hb : Blk w g e cur := hh
    exact .inr ⟨g, c, cur.setIfInBounds o u, rfl, hg, hb.setCell _ _, hnc, hcm, by simp [hcs], by rw [Array.toList_setIfInBounds, List.take_set, hx]⟩
theorem gvs_turn (pre post : List (Value × Gr)) (x : Value) (d d' : List UInt8) (s s' : Bool) : (gvs (pre ++ (x, (⟨d, s⟩ : Gr)) :: post)).set (pre.length * 2 + 1) (.bool s') = gvs (pre ++ (x, (⟨d', s'⟩ : Gr)) :: post) := by
  rw [gvs_app, gvs_app, gvs_cons, gvs_cons, List.set_append_right _ _ (by rw [gvs_len]; omega), gvs_len, Nat.add_sub_cancel_left]
  rfl
/-- A byte of one is turned. -/
theorem BgX.turn {w w2 : World} {B b gx : Nat} {U : Nat → Prop} {v x : Value} {pre post : List (Value × Gr)} {d d' : List UInt8} {s : Bool} {g c : Nat} (h : BgX w B b U v (pre ++ (x, (⟨d, s⟩ : Gr)) :: post)) (hv : v = .slice (some ⟨g, 0, none⟩) (pre ++ (x, (⟨d, s⟩ : Gr)) :: post).length c)
    (hgx : x.ownBlock = some gx) (hg : w.grownBy w2 (some gx)) (hd : w2.ownsRow B 5 1 x d'.length (bvs d')) (hl : d'.length = d.length) :
    BgX (w2.setCell ⟨g, pre.length * 2 + 1, none⟩ (.bool true)) B b U v (pre ++ (x, (⟨d', true⟩ : Gr)) :: post) := by
  have hm : (x, (⟨d, s⟩ : Gr)) ∈ pre ++ (x, (⟨d, s⟩ : Gr)) :: post := by simp
  have hxd := h.data _ hm
  have hUx := h.dataU _ hm gx hgx
  have hvg : v.ownBlock = some g := by rw [hv]; rfl
  have hgg : gx ≠ g := fun e => own_ne h.row hxd (by decide) hvg (by rw [← e]; exact hgx)
  have hgb : g ≠ b := fun e => h.out (e ▸ h.rowU g hvg)
  have hxb : gx ≠ b := fun e => h.out (e ▸ hUx)
  have hset := grown_setCell w2 ⟨g, pre.length * 2 + 1, none⟩ (.bool true)
  have hap := h.apart
  rw [List.pairwise_append, List.pairwise_cons] at hap
  have hlen : (pre ++ (x, (⟨d', true⟩ : Gr)) :: post).length = (pre ++ (x, (⟨d, s⟩ : Gr)) :: post).length := by simp
  have hrow2 := own_grown h.row hg (fun k hk e => by injection e with e; rw [hvg] at hk; injection hk with hk; omega)
  have hother : ∀ p ∈ pre ++ post, (w2.setCell ⟨g, pre.length * 2 + 1, none⟩ (.bool true)).ownsRow B 5 1 p.1 p.2.b.length (bvs p.2.b) := by
    intro p hp
    have hpm : p ∈ pre ++ (x, (⟨d, s⟩ : Gr)) :: post := by
      rcases List.mem_append.1 hp with hp | hp
      · exact List.mem_append_left _ hp
      · exact List.mem_append_right _ (List.mem_cons_of_mem _ hp)
    have hne : ∀ k, p.1.ownBlock = some k → k ≠ gx := by
      intro k hk e
      subst e
      rcases List.mem_append.1 hp with hp | hp
      · exact hap.2.2 p hp _ List.mem_cons_self k hk hgx
      · exact hap.2.1.1 p hp k hgx hk
    exact own_grown (own_grown (h.data p hpm) hg (fun k hk e => by injection e with e; exact hne k hk e)) hset (fun k hk e => own_ne h.row (h.data p hpm) (by decide) hvg (by injection e with e; rw [hk]; exact congrArg some e))
  refine ⟨(h.blk.grown hg (fun e => by injection e with e; omega)).grown hset (fun e => by injection e with e; simp only at e; omega), ?_, ?_, ?_, h.rowU, ?_, h.out, h.low, by rw [hlen]; exact h.few, ?_⟩
  · rw [hlen, ← gvs_turn pre post x d d' s true]
    rw [hv] at hrow2 ⊢
    exact row_cell hrow2 (.bool true) (by simp; omega)
  · intro p hp
    rcases List.mem_append.1 hp with hp | hp
    · exact hother p (List.mem_append_left _ hp)
    · rcases List.mem_cons.1 hp with rfl | hp
      · exact own_grown hd hset (fun k hk e => by rw [hgx] at hk; injection hk with hk; injection e with e; simp only at e; omega)
      · exact hother p (List.mem_append_right _ hp)
  · rw [List.pairwise_append, List.pairwise_cons]
    refine ⟨hap.1, ⟨fun q hq => hap.2.1.1 q hq, hap.2.1.2⟩, fun p hp q hq => ?_⟩
    rcases List.mem_cons.1 hq with rfl | hq
    · exact hap.2.2 p hp (x, ⟨d, s⟩) List.mem_cons_self
    · exact hap.2.2 p hp q (List.mem_cons_of_mem _ hq)
  · intro p hp k hk
    rcases List.mem_append.1 hp with hp | hp
    · exact h.dataU p (List.mem_append_left _ hp) k hk
    · rcases List.mem_cons.1 hp with rfl | hp
      · exact h.dataU _ hm k hk
      · exact h.dataU p (List.mem_append_right _ (List.mem_cons_of_mem _ hp)) k hk
  · intro p hp
    rcases List.mem_append.1 hp with hp | hp
    · exact h.far p (List.mem_append_left _ hp)
    · rcases List.mem_cons.1 hp with rfl | hp
      · simp only; rw [hl]; exact h.far _ hm
      · exact h.far p (List.mem_append_right _ (List.mem_cons_of_mem _ hp))
theorem at_is {n : Nat} (h : 0 < n) (z : Int) : (if z.tmod n < 0 then z.tmod n + n else z.tmod n) = (atN n z : Int) := by
  have hb := tmod_bounds z n h
  unfold atN
  have h2 := Int.tmod_nonneg (n : Int) (show 0 ≤ z.tmod n + n by omega)
  split
  · have : (z.tmod n + n).tmod n = z.tmod n + n := Int.tmod_eq_of_lt (by omega) (by omega)
    omega
  · have : (z.tmod n + n).tmod n = z.tmod n := by
      rw [Int.tmod_eq_emod_of_nonneg (by omega), Int.add_emod_right, Int.emod_eq_of_lt (by omega) (by omega)]
    omega
end Net
end Go.Proofs.Ytallbhdfbkkjkaa
