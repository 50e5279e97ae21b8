/- Layer 7: what is near some blocks, in order. -/
import Derived.Test.YtiehhmchokbafaaCowT
import Derived.Test.YtiehhmchokbafaaCowX
import Derived.Test.YtiehhmchokbafaaEmpD
set_option linter.all false
namespace Go.Proofs.Ytiehhmchokbafaa
open Go.RowKit

def nearT : Tr → Int → Int → List Ext
  | .nil, _, _ => []
  | .node _ lo x hi, b, e => (if b ≤ x.off then nearT lo b e else []) ++ ((if b ≤ x.off + x.len ∧ x.off ≤ e then [x] else []) ++ (if x.off + x.len ≤ e then nearT hi b e else []))
theorem nearT_is : ∀ {t : Tr} {lo b e : Int}, listFrom lo t.list = true → nearT t b e = t.list.filter (isNear b e)
  | .nil, _, _, _, _ => rfl
  | .node n lo x hi, m, b, e, hl => by
    obtain ⟨l1, l2, l3, l4, l5⟩ := listFrom_mid (show listFrom m (lo.list ++ x :: hi.list) = true from hl)
    have hx := may_len l3
    have e1 : (if b ≤ x.off then nearT lo b e else []) = lo.list.filter (isNear b e) := by
      by_cases c : b ≤ x.off
      · rw [if_pos c, nearT_is l1]
      · rw [if_neg c, filter_none fun y hy => by have := l2 y hy; simp only [isNear, decide_eq_false_iff_not]; omega]
    have e3 : (if x.off + x.len ≤ e then nearT hi b e else []) = hi.list.filter (isNear b e) := by
      by_cases c : x.off + x.len ≤ e
      · rw [if_pos c, nearT_is l5]
      · rw [if_neg c, filter_none fun y hy => by have := listFrom_mem l5 y hy; simp only [isNear, decide_eq_false_iff_not]; omega]
    rw [list_node, List.filter_append, List.filter_cons]
    show (if b ≤ x.off then nearT lo b e else []) ++ ((if b ≤ x.off + x.len ∧ x.off ≤ e then [x] else []) ++ (if x.off + x.len ≤ e then nearT hi b e else [])) = _
    rw [e1, e3]
    by_cases c : b ≤ x.off + x.len ∧ x.off ≤ e
    · simp [isNear, c]
    · have : isNear b e x = false := by simp only [isNear, decide_eq_false_iff_not]; exact c
      rw [if_neg c, this]
      simp
theorem nearT_len {t : Tr} {lo b e : Int} (h : listFrom lo t.list = true) : (nearT t b e).length ≤ t.size := by
  rw [nearT_is h, Tr.size_list]
  exact List.length_filter_le _ _
theorem After.drewR {w w' : World} {v v' : Value} (h : After w v w' v') : After w v w'.drew v' := ⟨grown_drewR h.1, h.2⟩
theorem grown_undrew {a b : World} {row : Option Nat} (h : a.drew.grownBy b row) : a.grownBy b row := ⟨h.os, h.tape, h.output, h.size, h.block⟩
theorem After.undrew {w w' : World} {v v' : Value} (h : After w.drew v w' v') : After w v w' v' := ⟨grown_undrew h.1, h.2⟩
theorem own_far {w : World} {B b n : Nat} {T : TypeId} {cs : Array Value} {v : Value} {l : List Ext} (h : Blk w b T cs) (hT : T ≠ 24) (k : Eo w B v n l) : v.ownBlock ≠ some b := by
  rcases k.2 with ⟨rfl, _⟩ | ⟨g, cap, cur, rfl, _, hh, _⟩
  · intro e; cases e
  · intro e
    injection e with e
    subst e
    exact hT (blk_type h hh)
theorem blk_own {w w' : World} {B b n : Nat} {T : TypeId} {cs : Array Value} {v : Value} {l : List Ext} (h : Blk w b T cs) (hT : T ≠ 24) (k : Eo w B v n l) (hg : w.grownBy w' v.ownBlock) : Blk w' b T cs :=
  h.grown hg fun e => own_far h hT k e.symm
theorem tree_own {w w' : World} {S : Nat → Prop} {B n : Nat} {v : Value} {l : List Ext} (k : Eo w B v n l) (hg : w.grownBy w' v.ownBlock) : ∀ {t : Tr} {a : Option Addr}, Tree w S a t → Tree w' S a t
  | .nil, _, h => h
  | .node _ lo x hi, a, h => by
    obtain ⟨b, al, ah, rfl, h1, h2, h3, h4, h5⟩ := h
    exact ⟨b, al, ah, rfl, blk_own h1 (by decide) k hg, h2, h3, tree_own k hg h4, tree_own k hg h5⟩
theorem Eo.drew {w : World} {B n : Nat} {v : Value} {l : List Ext} (h : Eo w B v n l) : Eo w.drew B v n l := h
theorem blk_drw {w : World} {b : Nat} {t : TypeId} {cs : Array Value} (h : Blk w b t cs) : Blk w.drew b t cs := h

section
variable (S : Nat → Prop)
/-- What near is asked for. -/
def Nears (S : Nat → Prop) (t : Tr) (b e : Int) : Prop := ∀ (a : Option Addr) (w : World) (B : Nat) (v : Value) (m : Nat) (acc : List Ext), Tree w S a t → Eo w B v m acc → B ≤ w.heap.size → m + t.size ≤ 100000 →
    Calls Try.prog 34 #[.agg #[.pointer a], v, .int .i64 b, .int .i64 e] w fun en w' => ∃ v' m', en = .returned v' ∧ Eo w' B v' m' (acc ++ nearT t b e) ∧ After w v w' v'
set_option maxRecDepth 100000 in
set_option maxHeartbeats 4000000 in
theorem near_nil (b e : Int) : Nears S .nil b e := by
  intro a w B v m acc h ho hB hs
  have h : a = none := h
  subst h
  obtain ⟨A, c, rfl, -, -, -⟩ := own_form ho
  have hb0 : Below w.heap.size w (w.alloc (.cells #[.pointer none] 70)) := (Below.refl _ _).alloc (Nat.le_refl _) _
  have ho1 := own_keep ho hb0
  have ha := (After.refl w (.slice A m c)).alloc (.cells #[.pointer none] 70)
  go_enter Try.func34, Try.ntmps34
  go_wp2
  go_ret
  refine ⟨_, m, rfl, ?_, ha⟩
  show Eo _ B _ m (acc ++ [])
  rw [List.append_nil]
  exact ho1
end
end Go.Proofs.Ytiehhmchokbafaa
