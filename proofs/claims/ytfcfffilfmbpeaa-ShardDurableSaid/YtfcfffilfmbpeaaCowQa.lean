/- XCowQ, XCowQa, XCowR. -/
import Derived.Test.YtfcfffilfmbpeaaCowT
import Derived.Test.YtfcfffilfmbpeaaCowX
import Derived.Test.YtfcfffilfmbpeaaEmpF
set_option linter.all false
namespace Go.Proofs.Ytfcfffilfmbpeaa
open Go.RowKit

def nearT : Tr → Int → Int → List Ext
  | .nil, _, _ => []
  | .node _ lo x hi, b, e => (if b ≤ x.off then nearT lo b e else []) ++ ((if b ≤ x.off + x.len ∧ x.off ≤ e then [x] else []) ++ (if x.off + x.len ≤ e then nearT hi b e else []))
theorem nearT_is : ∀ {t : Tr} {lo b e : Int}, listFrom lo t.list = true → nearT t b e = t.list.filter (isNear b e)
  | .nil, _, _, _, _ => rfl
  | .node n lo x hi, m, b, e, hl => by
    obtain ⟨l1, l2, l3, l4, l5⟩ := listFrom_mid (show listFrom m (lo.list ++ x :: hi.list) = true from hl)
    have hx := may_len l3
    have e1 : (if b ≤ x.off then nearT lo b e else []) = lo.list.filter (isNear b e) := by
      by_cases c : b ≤ x.off
      · rw [if_pos c, nearT_is l1]
      · rw [if_neg c, filter_none fun y hy => by have := l2 y hy; simp only [isNear, decide_eq_false_iff_not]; omega]
    have e3 : (if x.off + x.len ≤ e then nearT hi b e else []) = hi.list.filter (isNear b e) := by
      by_cases c : x.off + x.len ≤ e
      · rw [if_pos c, nearT_is l5]
      · rw [if_neg c, filter_none fun y hy => by have := listFrom_mem l5 y hy; simp only [isNear, decide_eq_false_iff_not]; omega]
    rw [list_node, List.filter_append, List.filter_cons]
    show (if b ≤ x.off then nearT lo b e else []) ++ ((if b ≤ x.off + x.len ∧ x.off ≤ e then [x] else []) ++ (if x.off + x.len ≤ e then nearT hi b e else [])) = _
    rw [e1, e3]
    by_cases c : b ≤ x.off + x.len ∧ x.off ≤ e
    · simp [isNear, c]
    · have : isNear b e x = false := by simp only [isNear, decide_eq_false_iff_not]; exact c
      rw [if_neg c, this]
      simp
theorem nearT_len {t : Tr} {lo b e : Int} (h : listFrom lo t.list = true) : (nearT t b e).length ≤ t.size := by
  rw [nearT_is h, Tr.size_list]
  exact List.length_filter_le _ _
theorem After.drewR {w w' : World} {v v' : Value} (h : After w v w' v') : After w v w'.drew v' := ⟨grown_drewR h.1, h.2⟩
theorem grown_undrew {a b : World} {row : Option Nat} (h : a.drew.grownBy b row) : a.grownBy b row := ⟨h.os, h.tape, h.output, h.size, h.block⟩
theorem After.undrew {w w' : World} {v v' : Value} (h : After w.drew v w' v') : After w v w' v' := ⟨grown_undrew h.1, h.2⟩
theorem own_far {w : World} {B b n : Nat} {T : TypeId} {cs : Array Value} {v : Value} {l : List Ext} (h : Blk w b T cs) (hT : T ≠ 77) (k : Eo w B v n l) : v.ownBlock ≠ some b := by
  rcases k.2 with ⟨rfl, _⟩ | ⟨g, cap, cur, rfl, _, hh, _⟩
  · intro e; cases e
  · intro e
    injection e with e
    subst e
    exact hT (blk_type h hh)
theorem blk_own {w w' : World} {B b n : Nat} {T : TypeId} {cs : Array Value} {v : Value} {l : List Ext} (h : Blk w b T cs) (hT : T ≠ 77) (k : Eo w B v n l) (hg : w.grownBy w' v.ownBlock) : Blk w' b T cs :=
  h.grown hg fun e => own_far h hT k e.symm
theorem tree_own {w w' : World} {S : Nat → Prop} {B n : Nat} {v : Value} {l : List Ext} (k : Eo w B v n l) (hg : w.grownBy w' v.ownBlock) : ∀ {t : Tr} {a : Option Addr}, Tree w S a t → Tree w' S a t
  | .nil, _, h => h
  | .node _ lo x hi, a, h => by
    obtain ⟨b, al, ah, rfl, h1, h2, h3, h4, h5⟩ := h
    exact ⟨b, al, ah, rfl, blk_own h1 (by decide) k hg, h2, h3, tree_own k hg h4, tree_own k hg h5⟩
theorem Eo.drew {w : World} {B n : Nat} {v : Value} {l : List Ext} (h : Eo w B v n l) : Eo w.drew B v n l := h
theorem blk_drw {w : World} {b : Nat} {t : TypeId} {cs : Array Value} (h : Blk w b t cs) : Blk w.drew b t cs := h

section
variable (S : Nat → Prop)
/-- What near is asked for. -/
def Nears (S : Nat → Prop) (t : Tr) (b e : Int) : Prop := ∀ (a : Option Addr) (w : World) (B : Nat) (v : Value) (m : Nat) (acc : List Ext), Tree w S a t → Eo w B v m acc → B ≤ w.heap.size → m + t.size ≤ 100000 →
    Calls Try.prog 59 #[.agg #[.pointer a], v, .int .i64 b, .int .i64 e] w fun en w' => ∃ v' m', en = .returned v' ∧ Eo w' B v' m' (acc ++ nearT t b e) ∧ After w v w' v'
set_option maxRecDepth 100000 in
set_option maxHeartbeats 4000000 in
theorem near_nil (b e : Int) : Nears S .nil b e := by
  intro a w B v m acc h ho hB hs
  have h : a = none := h
  subst h
  obtain ⟨A, c, rfl, -, -, -⟩ := own_form ho
  have hb0 : Below w.heap.size w (w.alloc (.cells #[.pointer none] 103)) := (Below.refl _ _).alloc (Nat.le_refl _) _
  have ho1 := own_keep ho hb0
  have ha := (After.refl w (.slice A m c)).alloc (.cells #[.pointer none] 103)
  go_enter Try.func59, Try.ntmps59
  go_wp2
  go_ret
  refine ⟨_, m, rfl, ?_, ha⟩
  show Eo _ B _ m (acc ++ [])
  rw [List.append_nil]
  exact ho1
end
end Go.Proofs.Ytfcfffilfmbpeaa

set_option linter.all false
namespace Go.Proofs.Ytfcfffilfmbpeaa
open Go.RowKit

section
variable (S : Nat → Prop)
set_option maxRecDepth 100000 in
set_option maxHeartbeats 4000000 in
theorem near_p1 (nw : Bool) (L R : Tr) (kx : Ext) (b e : Int) (fb : I64 b) (fe : I64 e) (hx : kx.may = true) (c1 : b ≤ kx.off) (hna : b ≤ kx.off + kx.len) (hnb : kx.off ≤ e) (c3 : kx.off + kx.len ≤ e) (hlL : (nearT L b e).length ≤ L.size) (ihL : Nears S L b e) (ihR : Nears S R b e) (a : Option Addr) (w : World) (B : Nat) (v : Value) (m : Nat) (acc : List Ext) (h : Tree w S a (.node nw L kx R)) (ho : Eo w B v m acc) (hB : B ≤ w.heap.size) (hs : m + (Tr.node nw L kx R).size ≤ 100000) :
    Calls Try.prog 59 #[.agg #[.pointer a], v, .int .i64 b, .int .i64 e] w fun en w' => ∃ v' m', en = .returned v' ∧ Eo w' B v' m' (((acc ++ nearT L b e) ++ [kx]) ++ nearT R b e) ∧ After w v w' v' := by
  obtain ⟨i0, hi0, hz0, hz1, hz2⟩ := ext_info
  have Hz := Lib.hid hz2
  clear hz2
  have hxl := may_len hx
  have hsz : m + L.size + R.size + 1 ≤ 100000 := by simp only [Tr.size] at hs; omega
  obtain ⟨bl, aL, aR, rfl, hbl, fkx, -, hL, hR⟩ := h
  unfold I64 at fb fe
  have hwx : IntKind.i64.wrap (kx.off + kx.len) = kx.off + kx.len := by rw [IntKind.wrap_i64]; omega
  obtain ⟨A, c, rfl, -, -, -⟩ := own_form ho
  obtain ⟨w1, hw1⟩ : ∃ w1, w1 = w.alloc (.cells #[.pointer (some ⟨bl, 0, none⟩)] 103) := ⟨_, rfl⟩
  have b1 : Blk w1 w.heap.size 103 #[.pointer (some ⟨bl, 0, none⟩)] := by rw [hw1]; exact Blk.new _ _ _ rfl
  have hB1 : Below w.heap.size w w1 := by rw [hw1]; exact (Below.refl _ _).alloc (Nat.le_refl _) _
  have ha1 : After w (.slice A m c) w1 (.slice A m c) := by rw [hw1]; exact (After.refl _ _).alloc _
  have n1 := hbl.keep hB1
  have tL1 := hL.below hB1
  have tR1 := hR.below hB1
  have o1 := own_keep ho hB1
  have e0 := b1.cell (j := 0) (u := .pointer (some ⟨bl, 0, none⟩)) rfl
  have e1 := n1.cell (j := 0) (u := .int .i64 kx.off) rfl
  have e4 := n1.cell (j := 4) (u := .pointer aL) rfl
  have Hm1 := Lib.hid (eo_len o1)
  have hs1 := hB1.size
  clear hbl hL hR ho hs hB1
  rw [hw1] at e0 e1 e4
  go_enter Try.func59, Try.ntmps59
  go_wp2_with fail
  rw [← hw1]
  clear hw1 e0 e1 e4
  generalize hg : w.heap.size = g at *
  refine (ihL aL w1 B (.slice A m c) m acc tL1 o1 (by omega) (by omega)).mono ?_
  rintro en w2 ⟨v2, m2, rfl, o2, ha2⟩
  have b2 := blk_own b1 (by decide) o1 ha2.1
  have n2 := blk_own n1 (by decide) o1 ha2.1
  have tR2 := tree_own o1 ha2.1 tR1
  have hm2 := eo_len o2
  rw [List.length_append, ← Hm1.out] at hm2
  have hs2 := ha2.1.size
  replace ha2 := ha1.trans ha2
  obtain ⟨A2, cc2, rfl, -, -, -⟩ := own_form o2
  clear b1 n1 tR1 o1 ha1
  have hM2 : m2 + R.size + 1 ≤ 100000 := by omega
  replace hs2 : g ≤ w2.heap.size := by omega
  clear hs1 hm2
  go_wp2_with fail
  refine wp_region_noPanic ?_
  refine wp_region_held_drew (S := (fun w' => w'.cell? ⟨g, 0, none⟩ = some (.pointer (some ⟨bl, 0, none⟩)) ∧ w'.cell? ⟨bl, 0, none⟩ = some (.int .i64 kx.off) ∧ w'.cell? ⟨bl, 1, none⟩ = some (.int .i64 kx.len))) (by kernel_rfl) ⟨b2.cell rfl, n2.cell rfl, n2.cell rfl⟩ (fun _ => ?_)
  refine wpAnyH_take (i := 0) (oi := _) (v := ?_) rfl (by kernel_rfl) (by kernel_rfl) (by kernel_rfl) (fun _ _ _ h => h) (Or.inl ⟨by kernel_rfl, ?_⟩) ⟨b2.cell rfl, n2.cell rfl, n2.cell rfl⟩ ?_
  rotate_left
  · (rintro w ⟨s0, s1, s2⟩; go_simp; (first | done | rfl))
  try simp only [Act.put, List.getElem_toArray, List.getElem_cons_zero, List.getElem_cons_succ, List.setIfInBounds_toArray, List.set_cons_zero, List.set_cons_succ]
  refine wpAnyH_take (i := 1) (oi := _) (v := ?_) rfl (by kernel_rfl) (by kernel_rfl) (by kernel_rfl) (fun _ _ _ h => h) (Or.inl ⟨by kernel_rfl, ?_⟩) ⟨b2.cell rfl, n2.cell rfl, n2.cell rfl⟩ ?_
  rotate_left
  · (rintro w ⟨s0, s1, s2⟩; go_simp; (first | done | rfl))
  try simp only [Act.put, List.getElem_toArray, List.getElem_cons_zero, List.getElem_cons_succ, List.setIfInBounds_toArray, List.set_cons_zero, List.set_cons_succ]
  refine wpAnyH_take (i := 2) (oi := _) (v := ?_) rfl (by kernel_rfl) (by kernel_rfl) (by kernel_rfl) (fun _ _ _ h => h) (Or.inl ⟨by kernel_rfl, ?_⟩) ⟨b2.cell rfl, n2.cell rfl, n2.cell rfl⟩ ?_
  rotate_left
  · (rintro w ⟨s0, s1, s2⟩; go_simp; (first | done | rfl))
  try simp only [Act.put, List.getElem_toArray, List.getElem_cons_zero, List.getElem_cons_succ, List.setIfInBounds_toArray, List.set_cons_zero, List.set_cons_succ]
  refine wpAnyH_take (i := 3) (oi := _) (v := ?_) rfl (by kernel_rfl) (by kernel_rfl) (by kernel_rfl) (fun _ _ _ h => h) (Or.inl ⟨by kernel_rfl, ?_⟩) ⟨b2.cell rfl, n2.cell rfl, n2.cell rfl⟩ ?_
  rotate_left
  · (rintro w ⟨s0, s1, s2⟩; go_simp; (first | done | rfl))
  try simp only [Act.put, List.getElem_toArray, List.getElem_cons_zero, List.getElem_cons_succ, List.setIfInBounds_toArray, List.set_cons_zero, List.set_cons_succ]
  refine wpAnyH_take (i := 4) (oi := _) (v := ?_) rfl (by kernel_rfl) (by kernel_rfl) (by kernel_rfl) (fun _ _ _ h => h) (Or.inl ⟨by kernel_rfl, ?_⟩) ⟨b2.cell rfl, n2.cell rfl, n2.cell rfl⟩ ?_
  rotate_left
  · (rintro w ⟨s0, s1, s2⟩; go_simp; (first | done | rfl))
  try simp only [Act.put, List.getElem_toArray, List.getElem_cons_zero, List.getElem_cons_succ, List.setIfInBounds_toArray, List.set_cons_zero, List.set_cons_succ]
  refine wpAnyH_take (i := 5) (oi := _) (v := ?_) rfl (by kernel_rfl) (by kernel_rfl) (by kernel_rfl) (fun _ _ _ h => h) (Or.inl ⟨by kernel_rfl, ?_⟩) ⟨b2.cell rfl, n2.cell rfl, n2.cell rfl⟩ ?_
  rotate_left
  · (rintro w ⟨s0, s1, s2⟩; go_simp; (first | done | rfl))
  try simp only [Act.put, List.getElem_toArray, List.getElem_cons_zero, List.getElem_cons_succ, List.setIfInBounds_toArray, List.set_cons_zero, List.set_cons_succ]
  refine wpAnyH_take (i := 6) (oi := _) (v := ?_) rfl (by kernel_rfl) (by kernel_rfl) (by kernel_rfl) (fun _ _ _ h => h) (Or.inl ⟨by kernel_rfl, ?_⟩) ⟨b2.cell rfl, n2.cell rfl, n2.cell rfl⟩ ?_
  rotate_left
  · (rintro w ⟨s0, s1, s2⟩; go_simp; (first | done | rfl))
  try simp only [Act.put, List.getElem_toArray, List.getElem_cons_zero, List.getElem_cons_succ, List.setIfInBounds_toArray, List.set_cons_zero, List.set_cons_succ]
  refine wpAnyH_take (i := 7) (oi := _) (v := ?_) rfl (by kernel_rfl) (by kernel_rfl) (by kernel_rfl) (fun _ _ _ h => h) (Or.inl ⟨by kernel_rfl, ?_⟩) ⟨b2.cell rfl, n2.cell rfl, n2.cell rfl⟩ ?_
  rotate_left
  · (rintro w ⟨s0, s1, s2⟩; go_simp; (first | done | rfl))
  try simp only [Act.put, List.getElem_toArray, List.getElem_cons_zero, List.getElem_cons_succ, List.setIfInBounds_toArray, List.set_cons_zero, List.set_cons_succ]
  refine wpAnyH_take (i := 8) (oi := _) (v := ?_) rfl (by kernel_rfl) (by kernel_rfl) (by kernel_rfl) (fun _ _ _ h => h) (Or.inl ⟨by kernel_rfl, ?_⟩) ⟨b2.cell rfl, n2.cell rfl, n2.cell rfl⟩ ?_
  rotate_left
  · (rintro w ⟨s0, s1, s2⟩; go_simp; (first | done | rfl))
  try simp only [Act.put, List.getElem_toArray, List.getElem_cons_zero, List.getElem_cons_succ, List.setIfInBounds_toArray, List.set_cons_zero, List.set_cons_succ]
  refine wpAnyH_take (i := 9) (oi := _) (v := ?_) rfl (by kernel_rfl) (by kernel_rfl) (by kernel_rfl) (fun _ _ _ h => h) (Or.inl ⟨by kernel_rfl, ?_⟩) ⟨b2.cell rfl, n2.cell rfl, n2.cell rfl⟩ ?_
  rotate_left
  · (rintro w ⟨s0, s1, s2⟩; go_simp; (first | done | rfl))
  try simp only [Act.put, List.getElem_toArray, List.getElem_cons_zero, List.getElem_cons_succ, List.setIfInBounds_toArray, List.set_cons_zero, List.set_cons_succ]
  refine wpAnyH_take (i := 10) (oi := _) (v := ?_) rfl (by kernel_rfl) (by kernel_rfl) (by kernel_rfl) (fun _ _ _ h => h) (Or.inl ⟨by kernel_rfl, ?_⟩) ⟨b2.cell rfl, n2.cell rfl, n2.cell rfl⟩ ?_
  rotate_left
  · (rintro w ⟨s0, s1, s2⟩; go_simp; (first | done | rfl))
  try simp only [Act.put, List.getElem_toArray, List.getElem_cons_zero, List.getElem_cons_succ, List.setIfInBounds_toArray, List.set_cons_zero, List.set_cons_succ]
  refine wpAnyH_take (i := 11) (oi := _) (v := ?_) rfl (by kernel_rfl) (by kernel_rfl) (by kernel_rfl) (fun _ _ _ h => h) (Or.inl ⟨by kernel_rfl, ?_⟩) ⟨b2.cell rfl, n2.cell rfl, n2.cell rfl⟩ ?_
  rotate_left
  · (rintro w ⟨s0, s1, s2⟩; go_simp; (first | done | rfl))
  try simp only [Act.put, List.getElem_toArray, List.getElem_cons_zero, List.getElem_cons_succ, List.setIfInBounds_toArray, List.set_cons_zero, List.set_cons_succ]
  refine wpAnyH_take (i := 12) (oi := _) (v := ?_) rfl (by kernel_rfl) (by kernel_rfl) (by kernel_rfl) (fun _ _ _ h => h) (Or.inl ⟨by kernel_rfl, ?_⟩) ⟨b2.cell rfl, n2.cell rfl, n2.cell rfl⟩ ?_
  rotate_left
  · (rintro w ⟨s0, s1, s2⟩; go_simp; (first | done | rfl))
  try simp only [Act.put, List.getElem_toArray, List.getElem_cons_zero, List.getElem_cons_succ, List.setIfInBounds_toArray, List.set_cons_zero, List.set_cons_succ]
  refine wpAnyH_take (i := 13) (oi := _) (v := ?_) rfl (by kernel_rfl) (by kernel_rfl) (by kernel_rfl) (fun _ _ _ h => h) (Or.inl ⟨by kernel_rfl, ?_⟩) ⟨b2.cell rfl, n2.cell rfl, n2.cell rfl⟩ ?_
  rotate_left
  · (rintro w ⟨s0, s1, s2⟩; go_simp; (first | done | rfl))
  try simp only [Act.put, List.getElem_toArray, List.getElem_cons_zero, List.getElem_cons_succ, List.setIfInBounds_toArray, List.set_cons_zero, List.set_cons_succ]
  refine wpAnyH_take (i := 14) (oi := _) (v := ?_) rfl (by kernel_rfl) (by kernel_rfl) (by kernel_rfl) (fun _ _ _ h => h) (Or.inl ⟨by kernel_rfl, ?_⟩) ⟨b2.cell rfl, n2.cell rfl, n2.cell rfl⟩ ?_
  rotate_left
  · (rintro w ⟨s0, s1, s2⟩; go_simp; (first | done | rfl))
  try simp only [Act.put, List.getElem_toArray, List.getElem_cons_zero, List.getElem_cons_succ, List.setIfInBounds_toArray, List.set_cons_zero, List.set_cons_succ]
  refine wpAnyH_take (i := 15) (oi := _) (v := ?_) rfl (by kernel_rfl) (by kernel_rfl) (by kernel_rfl) (fun _ _ _ h => h) (Or.inl ⟨by kernel_rfl, ?_⟩) ⟨b2.cell rfl, n2.cell rfl, n2.cell rfl⟩ ?_
  rotate_left
  · (rintro w ⟨s0, s1, s2⟩; go_simp; (first | done | rfl))
  try simp only [Act.put, List.getElem_toArray, List.getElem_cons_zero, List.getElem_cons_succ, List.setIfInBounds_toArray, List.set_cons_zero, List.set_cons_succ]
  refine wpAnyH_take (i := 16) (oi := _) (v := ?_) rfl (by kernel_rfl) (by kernel_rfl) (by kernel_rfl) (fun _ _ _ h => h) (Or.inl ⟨by kernel_rfl, ?_⟩) ⟨b2.cell rfl, n2.cell rfl, n2.cell rfl⟩ ?_
  rotate_left
  · (rintro w ⟨s0, s1, s2⟩; go_simp; (first | done | rfl))
  try simp only [Act.put, List.getElem_toArray, List.getElem_cons_zero, List.getElem_cons_succ, List.setIfInBounds_toArray, List.set_cons_zero, List.set_cons_succ]
  refine wpAnyH_take (i := 17) (oi := _) (v := ?_) rfl (by kernel_rfl) (by kernel_rfl) (by kernel_rfl) (fun _ _ _ h => h) (Or.inl ⟨by kernel_rfl, ?_⟩) ⟨b2.cell rfl, n2.cell rfl, n2.cell rfl⟩ ?_
  rotate_left
  · (rintro w ⟨s0, s1, s2⟩; go_simp; (first | done | rfl))
  try simp only [Act.put, List.getElem_toArray, List.getElem_cons_zero, List.getElem_cons_succ, List.setIfInBounds_toArray, List.set_cons_zero, List.set_cons_succ]
  refine wpAnyH_take (i := 18) (oi := _) (v := ?_) rfl (by kernel_rfl) (by kernel_rfl) (by kernel_rfl) (fun _ _ _ h => h) (Or.inl ⟨by kernel_rfl, ?_⟩) ⟨b2.cell rfl, n2.cell rfl, n2.cell rfl⟩ ?_
  rotate_left
  · (rintro w ⟨s0, s1, s2⟩; go_simp; (first | done | rfl))
  try simp only [Act.put, List.getElem_toArray, List.getElem_cons_zero, List.getElem_cons_succ, List.setIfInBounds_toArray, List.set_cons_zero, List.set_cons_succ]
  refine wpAnyH_take (i := 19) (oi := _) (v := ?_) rfl (by kernel_rfl) (by kernel_rfl) (by kernel_rfl) (fun _ _ _ h => h) (Or.inl ⟨by kernel_rfl, ?_⟩) ⟨b2.cell rfl, n2.cell rfl, n2.cell rfl⟩ ?_
  rotate_left
  · (rintro w ⟨s0, s1, s2⟩; go_simp; (first | done | rfl))
  try simp only [Act.put, List.getElem_toArray, List.getElem_cons_zero, List.getElem_cons_succ, List.setIfInBounds_toArray, List.set_cons_zero, List.set_cons_succ]
  refine wpAnyH_take (i := 20) (oi := _) (v := ?_) rfl (by kernel_rfl) (by kernel_rfl) (by kernel_rfl) (fun _ _ _ h => h) (Or.inl ⟨by kernel_rfl, ?_⟩) ⟨b2.cell rfl, n2.cell rfl, n2.cell rfl⟩ ?_
  rotate_left
  · (rintro w ⟨s0, s1, s2⟩; go_simp; (first | done | rfl))
  try simp only [Act.put, List.getElem_toArray, List.getElem_cons_zero, List.getElem_cons_succ, List.setIfInBounds_toArray, List.set_cons_zero, List.set_cons_succ]
  refine wpAnyH_take (i := 21) (oi := _) (v := ?_) rfl (by kernel_rfl) (by kernel_rfl) (by kernel_rfl) (fun _ _ _ h => h) (Or.inl ⟨by kernel_rfl, ?_⟩) ⟨b2.cell rfl, n2.cell rfl, n2.cell rfl⟩ ?_
  rotate_left
  · (rintro w ⟨s0, s1, s2⟩; go_simp; (first | done | rfl))
  try simp only [Act.put, List.getElem_toArray, List.getElem_cons_zero, List.getElem_cons_succ, List.setIfInBounds_toArray, List.set_cons_zero, List.set_cons_succ]
  refine wpAnyH_take (i := 22) (oi := _) (v := ?_) rfl (by kernel_rfl) (by kernel_rfl) (by kernel_rfl) (fun _ _ _ h => h) (Or.inl ⟨by kernel_rfl, ?_⟩) ⟨b2.cell rfl, n2.cell rfl, n2.cell rfl⟩ ?_
  rotate_left
  · (rintro w ⟨s0, s1, s2⟩; go_simp; (first | done | rfl))
  try simp only [Act.put, List.getElem_toArray, List.getElem_cons_zero, List.getElem_cons_succ, List.setIfInBounds_toArray, List.set_cons_zero, List.set_cons_succ]
  refine wpAnyH_take (i := 23) (oi := _) (v := ?_) rfl (by kernel_rfl) (by kernel_rfl) (by kernel_rfl) (fun _ _ _ h => h) (Or.inl ⟨by kernel_rfl, ?_⟩) ⟨b2.cell rfl, n2.cell rfl, n2.cell rfl⟩ ?_
  rotate_left
  · (rintro w ⟨s0, s1, s2⟩; go_simp; (first | done | rfl))
  try simp only [Act.put, List.getElem_toArray, List.getElem_cons_zero, List.getElem_cons_succ, List.setIfInBounds_toArray, List.set_cons_zero, List.set_cons_succ]
  refine wpAnyH_take (i := 24) (oi := _) (v := ?_) rfl (by kernel_rfl) (by kernel_rfl) (by kernel_rfl) (fun _ _ _ h => h) (Or.inl ⟨by kernel_rfl, ?_⟩) ⟨b2.cell rfl, n2.cell rfl, n2.cell rfl⟩ ?_
  rotate_left
  · (rintro w ⟨s0, s1, s2⟩; go_simp; (first | done | rfl))
  try simp only [Act.put, List.getElem_toArray, List.getElem_cons_zero, List.getElem_cons_succ, List.setIfInBounds_toArray, List.set_cons_zero, List.set_cons_succ]
  refine wpAnyH_done (by kernel_rfl) ?_ _
  refine NoPanic.normal ?_
  have x0 := n2.cell (j := 0) (u := .int .i64 kx.off) rfl
  have x1 := n2.cell (j := 1) (u := .int .i64 kx.len) rfl
  have x2 := n2.cell (j := 2) (u := .int .i64 kx.phys) rfl
  have x3 := n2.cell (j := 3) (u := .int .i64 kx.birth) rfl
  have xb := b2.cell (j := 0) (u := .pointer (some ⟨bl, 0, none⟩)) rfl
  go_wp2_with (first
    | (at_builtin
       go_must (refine wpList_app _ rfl (.tmp 55) (.tmp 61) _ rfl B 77 i0 _ 4 32 Try.underlying90 hi0 hz0 hz1 Hz.out rfl (by decide) _ m2 _ rfl (own_keep o2.drew ((Below.refl _ _).alloc (Nat.le_refl _) _)) _ 1 1 (ev kx) rfl (fun h => by cases h) (rd_one rfl) (by intro u hu; exact evs_one [kx] u (by simpa [evs] using hu)) (by unfold maxLen; omega) (by omega) (by simp; omega) ?_)
       intro v4 w4 hown4 hg4 hat4
       have o4 : Eo w4 B v4 (m2 + 1) ((acc ++ nearT L b e) ++ [kx]) := eo_of hown4 (evs_snoc _ _).symm)
    | fail)
  have ok4 := own_keep o2.drew ((Below.refl _ _).alloc (Nat.le_refl _) (.cells #[.int .i64 kx.off, .int .i64 kx.len, .int .i64 kx.phys, .int .i64 kx.birth] 77))
  have b4 := blk_own ((blk_drw b2).alloc _) (by decide) ok4 hg4
  have n4 := blk_own ((blk_drw n2).alloc _) (by decide) ok4 hg4
  have tR4 := tree_own ok4 hg4 (tR2.drew.alloc _)
  have ha4 := (ha2.drewR.alloc _).trans (After.app hg4 hat4)
  have hs4 : g ≤ w4.heap.size := Nat.le_trans hs2 (Nat.le_trans (by simp) hg4.size)
  obtain ⟨A4, cc4, rfl, -, -, -⟩ := own_form o4
  clear x0 x1 x2 x3 xb hown4 hg4 hat4 ok4 b2 n2 tR2 ha2
  refine wp_region_noPanic ?_
  refine wp_region_held_drew (S := (fun w' => w'.cell? ⟨g, 0, none⟩ = some (.pointer (some ⟨bl, 0, none⟩)) ∧ w'.cell? ⟨bl, 0, none⟩ = some (.int .i64 kx.off) ∧ w'.cell? ⟨bl, 1, none⟩ = some (.int .i64 kx.len))) (by kernel_rfl) ⟨b4.cell rfl, n4.cell rfl, n4.cell rfl⟩ (fun _ => ?_)
  refine wpAnyH_take (i := 0) (oi := _) (v := ?_) rfl (by kernel_rfl) (by kernel_rfl) (by kernel_rfl) (fun _ _ _ h => h) (Or.inl ⟨by kernel_rfl, ?_⟩) ⟨b4.cell rfl, n4.cell rfl, n4.cell rfl⟩ ?_
  rotate_left
  · (rintro w ⟨s0, s1, s2⟩; go_simp; (first | done | rfl))
  try simp only [Act.put, List.getElem_toArray, List.getElem_cons_zero, List.getElem_cons_succ, List.setIfInBounds_toArray, List.set_cons_zero, List.set_cons_succ]
  refine wpAnyH_take (i := 1) (oi := _) (v := ?_) rfl (by kernel_rfl) (by kernel_rfl) (by kernel_rfl) (fun _ _ _ h => h) (Or.inl ⟨by kernel_rfl, ?_⟩) ⟨b4.cell rfl, n4.cell rfl, n4.cell rfl⟩ ?_
  rotate_left
  · (rintro w ⟨s0, s1, s2⟩; go_simp; (first | done | rfl))
  try simp only [Act.put, List.getElem_toArray, List.getElem_cons_zero, List.getElem_cons_succ, List.setIfInBounds_toArray, List.set_cons_zero, List.set_cons_succ]
  refine wpAnyH_take (i := 2) (oi := _) (v := ?_) rfl (by kernel_rfl) (by kernel_rfl) (by kernel_rfl) (fun _ _ _ h => h) (Or.inl ⟨by kernel_rfl, ?_⟩) ⟨b4.cell rfl, n4.cell rfl, n4.cell rfl⟩ ?_
  rotate_left
  · (rintro w ⟨s0, s1, s2⟩; go_simp; (first | done | rfl))
  try simp only [Act.put, List.getElem_toArray, List.getElem_cons_zero, List.getElem_cons_succ, List.setIfInBounds_toArray, List.set_cons_zero, List.set_cons_succ]
  refine wpAnyH_take (i := 3) (oi := _) (v := ?_) rfl (by kernel_rfl) (by kernel_rfl) (by kernel_rfl) (fun _ _ _ h => h) (Or.inl ⟨by kernel_rfl, ?_⟩) ⟨b4.cell rfl, n4.cell rfl, n4.cell rfl⟩ ?_
  rotate_left
  · (rintro w ⟨s0, s1, s2⟩; go_simp; (first | done | rfl))
  try simp only [Act.put, List.getElem_toArray, List.getElem_cons_zero, List.getElem_cons_succ, List.setIfInBounds_toArray, List.set_cons_zero, List.set_cons_succ]
  refine wpAnyH_take (i := 4) (oi := _) (v := ?_) rfl (by kernel_rfl) (by kernel_rfl) (by kernel_rfl) (fun _ _ _ h => h) (Or.inl ⟨by kernel_rfl, ?_⟩) ⟨b4.cell rfl, n4.cell rfl, n4.cell rfl⟩ ?_
  rotate_left
  · (rintro w ⟨s0, s1, s2⟩; go_simp; (first | done | rfl))
  try simp only [Act.put, List.getElem_toArray, List.getElem_cons_zero, List.getElem_cons_succ, List.setIfInBounds_toArray, List.set_cons_zero, List.set_cons_succ]
  refine wpAnyH_take (i := 5) (oi := _) (v := ?_) rfl (by kernel_rfl) (by kernel_rfl) (by kernel_rfl) (fun _ _ _ h => h) (Or.inl ⟨by kernel_rfl, ?_⟩) ⟨b4.cell rfl, n4.cell rfl, n4.cell rfl⟩ ?_
  rotate_left
  · (rintro w ⟨s0, s1, s2⟩; go_simp; (first | done | rfl))
  try simp only [Act.put, List.getElem_toArray, List.getElem_cons_zero, List.getElem_cons_succ, List.setIfInBounds_toArray, List.set_cons_zero, List.set_cons_succ]
  refine wpAnyH_take (i := 6) (oi := _) (v := ?_) rfl (by kernel_rfl) (by kernel_rfl) (by kernel_rfl) (fun _ _ _ h => h) (Or.inl ⟨by kernel_rfl, ?_⟩) ⟨b4.cell rfl, n4.cell rfl, n4.cell rfl⟩ ?_
  rotate_left
  · (rintro w ⟨s0, s1, s2⟩; go_simp; (first | done | rfl))
  try simp only [Act.put, List.getElem_toArray, List.getElem_cons_zero, List.getElem_cons_succ, List.setIfInBounds_toArray, List.set_cons_zero, List.set_cons_succ]
  refine wpAnyH_take (i := 7) (oi := _) (v := ?_) rfl (by kernel_rfl) (by kernel_rfl) (by kernel_rfl) (fun _ _ _ h => h) (Or.inl ⟨by kernel_rfl, ?_⟩) ⟨b4.cell rfl, n4.cell rfl, n4.cell rfl⟩ ?_
  rotate_left
  · (rintro w ⟨s0, s1, s2⟩; go_simp; (first | done | rfl))
  try simp only [Act.put, List.getElem_toArray, List.getElem_cons_zero, List.getElem_cons_succ, List.setIfInBounds_toArray, List.set_cons_zero, List.set_cons_succ]
  refine wpAnyH_take (i := 8) (oi := _) (v := ?_) rfl (by kernel_rfl) (by kernel_rfl) (by kernel_rfl) (fun _ _ _ h => h) (Or.inl ⟨by kernel_rfl, ?_⟩) ⟨b4.cell rfl, n4.cell rfl, n4.cell rfl⟩ ?_
  rotate_left
  · (rintro w ⟨s0, s1, s2⟩; go_simp; (first | done | rfl))
  try simp only [Act.put, List.getElem_toArray, List.getElem_cons_zero, List.getElem_cons_succ, List.setIfInBounds_toArray, List.set_cons_zero, List.set_cons_succ]
  refine wpAnyH_take (i := 9) (oi := _) (v := ?_) rfl (by kernel_rfl) (by kernel_rfl) (by kernel_rfl) (fun _ _ _ h => h) (Or.inl ⟨by kernel_rfl, ?_⟩) ⟨b4.cell rfl, n4.cell rfl, n4.cell rfl⟩ ?_
  rotate_left
  · (rintro w ⟨s0, s1, s2⟩; go_simp; (first | done | rfl))
  try simp only [Act.put, List.getElem_toArray, List.getElem_cons_zero, List.getElem_cons_succ, List.setIfInBounds_toArray, List.set_cons_zero, List.set_cons_succ]
  refine wpAnyH_take (i := 10) (oi := _) (v := ?_) rfl (by kernel_rfl) (by kernel_rfl) (by kernel_rfl) (fun _ _ _ h => h) (Or.inl ⟨by kernel_rfl, ?_⟩) ⟨b4.cell rfl, n4.cell rfl, n4.cell rfl⟩ ?_
  rotate_left
  · (rintro w ⟨s0, s1, s2⟩; go_simp; (first | done | rfl))
  try simp only [Act.put, List.getElem_toArray, List.getElem_cons_zero, List.getElem_cons_succ, List.setIfInBounds_toArray, List.set_cons_zero, List.set_cons_succ]
  refine wpAnyH_take (i := 11) (oi := _) (v := ?_) rfl (by kernel_rfl) (by kernel_rfl) (by kernel_rfl) (fun _ _ _ h => h) (Or.inl ⟨by kernel_rfl, ?_⟩) ⟨b4.cell rfl, n4.cell rfl, n4.cell rfl⟩ ?_
  rotate_left
  · (rintro w ⟨s0, s1, s2⟩; go_simp; (first | done | rfl))
  try simp only [Act.put, List.getElem_toArray, List.getElem_cons_zero, List.getElem_cons_succ, List.setIfInBounds_toArray, List.set_cons_zero, List.set_cons_succ]
  refine wpAnyH_take (i := 12) (oi := _) (v := ?_) rfl (by kernel_rfl) (by kernel_rfl) (by kernel_rfl) (fun _ _ _ h => h) (Or.inl ⟨by kernel_rfl, ?_⟩) ⟨b4.cell rfl, n4.cell rfl, n4.cell rfl⟩ ?_
  rotate_left
  · (rintro w ⟨s0, s1, s2⟩; go_simp; (first | done | rfl))
  try simp only [Act.put, List.getElem_toArray, List.getElem_cons_zero, List.getElem_cons_succ, List.setIfInBounds_toArray, List.set_cons_zero, List.set_cons_succ]
  refine wpAnyH_take (i := 13) (oi := _) (v := ?_) rfl (by kernel_rfl) (by kernel_rfl) (by kernel_rfl) (fun _ _ _ h => h) (Or.inl ⟨by kernel_rfl, ?_⟩) ⟨b4.cell rfl, n4.cell rfl, n4.cell rfl⟩ ?_
  rotate_left
  · (rintro w ⟨s0, s1, s2⟩; go_simp; (first | done | rfl))
  try simp only [Act.put, List.getElem_toArray, List.getElem_cons_zero, List.getElem_cons_succ, List.setIfInBounds_toArray, List.set_cons_zero, List.set_cons_succ]
  refine wpAnyH_take (i := 14) (oi := _) (v := ?_) rfl (by kernel_rfl) (by kernel_rfl) (by kernel_rfl) (fun _ _ _ h => h) (Or.inl ⟨by kernel_rfl, ?_⟩) ⟨b4.cell rfl, n4.cell rfl, n4.cell rfl⟩ ?_
  rotate_left
  · (rintro w ⟨s0, s1, s2⟩; go_simp; (first | done | rfl))
  try simp only [Act.put, List.getElem_toArray, List.getElem_cons_zero, List.getElem_cons_succ, List.setIfInBounds_toArray, List.set_cons_zero, List.set_cons_succ]
  refine wpAnyH_done (by kernel_rfl) ?_ _
  refine NoPanic.normal ?_
  have y0 := b4.cell (j := 0) (u := .pointer (some ⟨bl, 0, none⟩)) rfl
  have y5 := n4.cell (j := 5) (u := .pointer aR) rfl
  go_wp2_with fail
  refine (ihR aR w4.drew B (.slice A4 (m2 + 1) cc4) (m2 + 1) ((acc ++ nearT L b e) ++ [kx]) tR4.drew o4.drew (Nat.le_trans hB hs4) (by omega)).mono ?_
  rintro en w6 ⟨v6, m6, rfl, o6, ha6⟩
  obtain ⟨A6, cc6, rfl, -, -, -⟩ := own_form o6
  go_wp2
  go_ret
  exact ⟨_, _, rfl, o6, ha4.drewR.trans ha6⟩
set_option maxRecDepth 100000 in
set_option maxHeartbeats 4000000 in
theorem near_p2 (nw : Bool) (L R : Tr) (kx : Ext) (b e : Int) (fb : I64 b) (fe : I64 e) (hx : kx.may = true) (c1 : b ≤ kx.off) (hna : b ≤ kx.off + kx.len) (hnb : kx.off ≤ e) (c3 : ¬ kx.off + kx.len ≤ e) (hlL : (nearT L b e).length ≤ L.size) (ihL : Nears S L b e) (ihR : Nears S R b e) (a : Option Addr) (w : World) (B : Nat) (v : Value) (m : Nat) (acc : List Ext) (h : Tree w S a (.node nw L kx R)) (ho : Eo w B v m acc) (hB : B ≤ w.heap.size) (hs : m + (Tr.node nw L kx R).size ≤ 100000) :
    Calls Try.prog 59 #[.agg #[.pointer a], v, .int .i64 b, .int .i64 e] w fun en w' => ∃ v' m', en = .returned v' ∧ Eo w' B v' m' ((acc ++ nearT L b e) ++ [kx]) ∧ After w v w' v' := by
  have hdc : decide (kx.off + kx.len ≤ e) = false := decide_eq_false c3
  obtain ⟨i0, hi0, hz0, hz1, hz2⟩ := ext_info
  have Hz := Lib.hid hz2
  clear hz2
  have hxl := may_len hx
  have hsz : m + L.size + R.size + 1 ≤ 100000 := by simp only [Tr.size] at hs; omega
  obtain ⟨bl, aL, aR, rfl, hbl, fkx, -, hL, hR⟩ := h
  unfold I64 at fb fe
  have hwx : IntKind.i64.wrap (kx.off + kx.len) = kx.off + kx.len := by rw [IntKind.wrap_i64]; omega
  obtain ⟨A, c, rfl, -, -, -⟩ := own_form ho
  obtain ⟨w1, hw1⟩ : ∃ w1, w1 = w.alloc (.cells #[.pointer (some ⟨bl, 0, none⟩)] 103) := ⟨_, rfl⟩
  have b1 : Blk w1 w.heap.size 103 #[.pointer (some ⟨bl, 0, none⟩)] := by rw [hw1]; exact Blk.new _ _ _ rfl
  have hB1 : Below w.heap.size w w1 := by rw [hw1]; exact (Below.refl _ _).alloc (Nat.le_refl _) _
  have ha1 : After w (.slice A m c) w1 (.slice A m c) := by rw [hw1]; exact (After.refl _ _).alloc _
  have n1 := hbl.keep hB1
  have tL1 := hL.below hB1
  have tR1 := hR.below hB1
  have o1 := own_keep ho hB1
  have e0 := b1.cell (j := 0) (u := .pointer (some ⟨bl, 0, none⟩)) rfl
  have e1 := n1.cell (j := 0) (u := .int .i64 kx.off) rfl
  have e4 := n1.cell (j := 4) (u := .pointer aL) rfl
  have Hm1 := Lib.hid (eo_len o1)
  have hs1 := hB1.size
  clear hbl hL hR ho hs hB1
  rw [hw1] at e0 e1 e4
  go_enter Try.func59, Try.ntmps59
  go_wp2_with fail
  rw [← hw1]
  clear hw1 e0 e1 e4
  generalize hg : w.heap.size = g at *
  refine (ihL aL w1 B (.slice A m c) m acc tL1 o1 (by omega) (by omega)).mono ?_
  rintro en w2 ⟨v2, m2, rfl, o2, ha2⟩
  have b2 := blk_own b1 (by decide) o1 ha2.1
  have n2 := blk_own n1 (by decide) o1 ha2.1
  have tR2 := tree_own o1 ha2.1 tR1
  have hm2 := eo_len o2
  rw [List.length_append, ← Hm1.out] at hm2
  have hs2 := ha2.1.size
  replace ha2 := ha1.trans ha2
  obtain ⟨A2, cc2, rfl, -, -, -⟩ := own_form o2
  clear b1 n1 tR1 o1 ha1
  have hM2 : m2 + R.size + 1 ≤ 100000 := by omega
  replace hs2 : g ≤ w2.heap.size := by omega
  clear hs1 hm2
  go_wp2_with fail
  refine wp_region_noPanic ?_
  refine wp_region_held_drew (S := (fun w' => w'.cell? ⟨g, 0, none⟩ = some (.pointer (some ⟨bl, 0, none⟩)) ∧ w'.cell? ⟨bl, 0, none⟩ = some (.int .i64 kx.off) ∧ w'.cell? ⟨bl, 1, none⟩ = some (.int .i64 kx.len))) (by kernel_rfl) ⟨b2.cell rfl, n2.cell rfl, n2.cell rfl⟩ (fun _ => ?_)
  refine wpAnyH_take (i := 0) (oi := _) (v := ?_) rfl (by kernel_rfl) (by kernel_rfl) (by kernel_rfl) (fun _ _ _ h => h) (Or.inl ⟨by kernel_rfl, ?_⟩) ⟨b2.cell rfl, n2.cell rfl, n2.cell rfl⟩ ?_
  rotate_left
  · (rintro w ⟨s0, s1, s2⟩; go_simp; (first | done | rfl))
  try simp only [Act.put, List.getElem_toArray, List.getElem_cons_zero, List.getElem_cons_succ, List.setIfInBounds_toArray, List.set_cons_zero, List.set_cons_succ]
  refine wpAnyH_take (i := 1) (oi := _) (v := ?_) rfl (by kernel_rfl) (by kernel_rfl) (by kernel_rfl) (fun _ _ _ h => h) (Or.inl ⟨by kernel_rfl, ?_⟩) ⟨b2.cell rfl, n2.cell rfl, n2.cell rfl⟩ ?_
  rotate_left
  · (rintro w ⟨s0, s1, s2⟩; go_simp; (first | done | rfl))
  try simp only [Act.put, List.getElem_toArray, List.getElem_cons_zero, List.getElem_cons_succ, List.setIfInBounds_toArray, List.set_cons_zero, List.set_cons_succ]
  refine wpAnyH_take (i := 2) (oi := _) (v := ?_) rfl (by kernel_rfl) (by kernel_rfl) (by kernel_rfl) (fun _ _ _ h => h) (Or.inl ⟨by kernel_rfl, ?_⟩) ⟨b2.cell rfl, n2.cell rfl, n2.cell rfl⟩ ?_
  rotate_left
  · (rintro w ⟨s0, s1, s2⟩; go_simp; (first | done | rfl))
  try simp only [Act.put, List.getElem_toArray, List.getElem_cons_zero, List.getElem_cons_succ, List.setIfInBounds_toArray, List.set_cons_zero, List.set_cons_succ]
  refine wpAnyH_take (i := 3) (oi := _) (v := ?_) rfl (by kernel_rfl) (by kernel_rfl) (by kernel_rfl) (fun _ _ _ h => h) (Or.inl ⟨by kernel_rfl, ?_⟩) ⟨b2.cell rfl, n2.cell rfl, n2.cell rfl⟩ ?_
  rotate_left
  · (rintro w ⟨s0, s1, s2⟩; go_simp; (first | done | rfl))
  try simp only [Act.put, List.getElem_toArray, List.getElem_cons_zero, List.getElem_cons_succ, List.setIfInBounds_toArray, List.set_cons_zero, List.set_cons_succ]
  refine wpAnyH_take (i := 4) (oi := _) (v := ?_) rfl (by kernel_rfl) (by kernel_rfl) (by kernel_rfl) (fun _ _ _ h => h) (Or.inl ⟨by kernel_rfl, ?_⟩) ⟨b2.cell rfl, n2.cell rfl, n2.cell rfl⟩ ?_
  rotate_left
  · (rintro w ⟨s0, s1, s2⟩; go_simp; (first | done | rfl))
  try simp only [Act.put, List.getElem_toArray, List.getElem_cons_zero, List.getElem_cons_succ, List.setIfInBounds_toArray, List.set_cons_zero, List.set_cons_succ]
  refine wpAnyH_take (i := 5) (oi := _) (v := ?_) rfl (by kernel_rfl) (by kernel_rfl) (by kernel_rfl) (fun _ _ _ h => h) (Or.inl ⟨by kernel_rfl, ?_⟩) ⟨b2.cell rfl, n2.cell rfl, n2.cell rfl⟩ ?_
  rotate_left
  · (rintro w ⟨s0, s1, s2⟩; go_simp; (first | done | rfl))
  try simp only [Act.put, List.getElem_toArray, List.getElem_cons_zero, List.getElem_cons_succ, List.setIfInBounds_toArray, List.set_cons_zero, List.set_cons_succ]
  refine wpAnyH_take (i := 6) (oi := _) (v := ?_) rfl (by kernel_rfl) (by kernel_rfl) (by kernel_rfl) (fun _ _ _ h => h) (Or.inl ⟨by kernel_rfl, ?_⟩) ⟨b2.cell rfl, n2.cell rfl, n2.cell rfl⟩ ?_
  rotate_left
  · (rintro w ⟨s0, s1, s2⟩; go_simp; (first | done | rfl))
  try simp only [Act.put, List.getElem_toArray, List.getElem_cons_zero, List.getElem_cons_succ, List.setIfInBounds_toArray, List.set_cons_zero, List.set_cons_succ]
  refine wpAnyH_take (i := 7) (oi := _) (v := ?_) rfl (by kernel_rfl) (by kernel_rfl) (by kernel_rfl) (fun _ _ _ h => h) (Or.inl ⟨by kernel_rfl, ?_⟩) ⟨b2.cell rfl, n2.cell rfl, n2.cell rfl⟩ ?_
  rotate_left
  · (rintro w ⟨s0, s1, s2⟩; go_simp; (first | done | rfl))
  try simp only [Act.put, List.getElem_toArray, List.getElem_cons_zero, List.getElem_cons_succ, List.setIfInBounds_toArray, List.set_cons_zero, List.set_cons_succ]
  refine wpAnyH_take (i := 8) (oi := _) (v := ?_) rfl (by kernel_rfl) (by kernel_rfl) (by kernel_rfl) (fun _ _ _ h => h) (Or.inl ⟨by kernel_rfl, ?_⟩) ⟨b2.cell rfl, n2.cell rfl, n2.cell rfl⟩ ?_
  rotate_left
  · (rintro w ⟨s0, s1, s2⟩; go_simp; (first | done | rfl))
  try simp only [Act.put, List.getElem_toArray, List.getElem_cons_zero, List.getElem_cons_succ, List.setIfInBounds_toArray, List.set_cons_zero, List.set_cons_succ]
  refine wpAnyH_take (i := 9) (oi := _) (v := ?_) rfl (by kernel_rfl) (by kernel_rfl) (by kernel_rfl) (fun _ _ _ h => h) (Or.inl ⟨by kernel_rfl, ?_⟩) ⟨b2.cell rfl, n2.cell rfl, n2.cell rfl⟩ ?_
  rotate_left
  · (rintro w ⟨s0, s1, s2⟩; go_simp; (first | done | rfl))
  try simp only [Act.put, List.getElem_toArray, List.getElem_cons_zero, List.getElem_cons_succ, List.setIfInBounds_toArray, List.set_cons_zero, List.set_cons_succ]
  refine wpAnyH_take (i := 10) (oi := _) (v := ?_) rfl (by kernel_rfl) (by kernel_rfl) (by kernel_rfl) (fun _ _ _ h => h) (Or.inl ⟨by kernel_rfl, ?_⟩) ⟨b2.cell rfl, n2.cell rfl, n2.cell rfl⟩ ?_
  rotate_left
  · (rintro w ⟨s0, s1, s2⟩; go_simp; (first | done | rfl))
  try simp only [Act.put, List.getElem_toArray, List.getElem_cons_zero, List.getElem_cons_succ, List.setIfInBounds_toArray, List.set_cons_zero, List.set_cons_succ]
  refine wpAnyH_take (i := 11) (oi := _) (v := ?_) rfl (by kernel_rfl) (by kernel_rfl) (by kernel_rfl) (fun _ _ _ h => h) (Or.inl ⟨by kernel_rfl, ?_⟩) ⟨b2.cell rfl, n2.cell rfl, n2.cell rfl⟩ ?_
  rotate_left
  · (rintro w ⟨s0, s1, s2⟩; go_simp; (first | done | rfl))
  try simp only [Act.put, List.getElem_toArray, List.getElem_cons_zero, List.getElem_cons_succ, List.setIfInBounds_toArray, List.set_cons_zero, List.set_cons_succ]
  refine wpAnyH_take (i := 12) (oi := _) (v := ?_) rfl (by kernel_rfl) (by kernel_rfl) (by kernel_rfl) (fun _ _ _ h => h) (Or.inl ⟨by kernel_rfl, ?_⟩) ⟨b2.cell rfl, n2.cell rfl, n2.cell rfl⟩ ?_
  rotate_left
  · (rintro w ⟨s0, s1, s2⟩; go_simp; (first | done | rfl))
  try simp only [Act.put, List.getElem_toArray, List.getElem_cons_zero, List.getElem_cons_succ, List.setIfInBounds_toArray, List.set_cons_zero, List.set_cons_succ]
  refine wpAnyH_take (i := 13) (oi := _) (v := ?_) rfl (by kernel_rfl) (by kernel_rfl) (by kernel_rfl) (fun _ _ _ h => h) (Or.inl ⟨by kernel_rfl, ?_⟩) ⟨b2.cell rfl, n2.cell rfl, n2.cell rfl⟩ ?_
  rotate_left
  · (rintro w ⟨s0, s1, s2⟩; go_simp; (first | done | rfl))
  try simp only [Act.put, List.getElem_toArray, List.getElem_cons_zero, List.getElem_cons_succ, List.setIfInBounds_toArray, List.set_cons_zero, List.set_cons_succ]
  refine wpAnyH_take (i := 14) (oi := _) (v := ?_) rfl (by kernel_rfl) (by kernel_rfl) (by kernel_rfl) (fun _ _ _ h => h) (Or.inl ⟨by kernel_rfl, ?_⟩) ⟨b2.cell rfl, n2.cell rfl, n2.cell rfl⟩ ?_
  rotate_left
  · (rintro w ⟨s0, s1, s2⟩; go_simp; (first | done | rfl))
  try simp only [Act.put, List.getElem_toArray, List.getElem_cons_zero, List.getElem_cons_succ, List.setIfInBounds_toArray, List.set_cons_zero, List.set_cons_succ]
  refine wpAnyH_take (i := 15) (oi := _) (v := ?_) rfl (by kernel_rfl) (by kernel_rfl) (by kernel_rfl) (fun _ _ _ h => h) (Or.inl ⟨by kernel_rfl, ?_⟩) ⟨b2.cell rfl, n2.cell rfl, n2.cell rfl⟩ ?_
  rotate_left
  · (rintro w ⟨s0, s1, s2⟩; go_simp; (first | done | rfl))
  try simp only [Act.put, List.getElem_toArray, List.getElem_cons_zero, List.getElem_cons_succ, List.setIfInBounds_toArray, List.set_cons_zero, List.set_cons_succ]
  refine wpAnyH_take (i := 16) (oi := _) (v := ?_) rfl (by kernel_rfl) (by kernel_rfl) (by kernel_rfl) (fun _ _ _ h => h) (Or.inl ⟨by kernel_rfl, ?_⟩) ⟨b2.cell rfl, n2.cell rfl, n2.cell rfl⟩ ?_
  rotate_left
  · (rintro w ⟨s0, s1, s2⟩; go_simp; (first | done | rfl))
  try simp only [Act.put, List.getElem_toArray, List.getElem_cons_zero, List.getElem_cons_succ, List.setIfInBounds_toArray, List.set_cons_zero, List.set_cons_succ]
  refine wpAnyH_take (i := 17) (oi := _) (v := ?_) rfl (by kernel_rfl) (by kernel_rfl) (by kernel_rfl) (fun _ _ _ h => h) (Or.inl ⟨by kernel_rfl, ?_⟩) ⟨b2.cell rfl, n2.cell rfl, n2.cell rfl⟩ ?_
  rotate_left
  · (rintro w ⟨s0, s1, s2⟩; go_simp; (first | done | rfl))
  try simp only [Act.put, List.getElem_toArray, List.getElem_cons_zero, List.getElem_cons_succ, List.setIfInBounds_toArray, List.set_cons_zero, List.set_cons_succ]
  refine wpAnyH_take (i := 18) (oi := _) (v := ?_) rfl (by kernel_rfl) (by kernel_rfl) (by kernel_rfl) (fun _ _ _ h => h) (Or.inl ⟨by kernel_rfl, ?_⟩) ⟨b2.cell rfl, n2.cell rfl, n2.cell rfl⟩ ?_
  rotate_left
  · (rintro w ⟨s0, s1, s2⟩; go_simp; (first | done | rfl))
  try simp only [Act.put, List.getElem_toArray, List.getElem_cons_zero, List.getElem_cons_succ, List.setIfInBounds_toArray, List.set_cons_zero, List.set_cons_succ]
  refine wpAnyH_take (i := 19) (oi := _) (v := ?_) rfl (by kernel_rfl) (by kernel_rfl) (by kernel_rfl) (fun _ _ _ h => h) (Or.inl ⟨by kernel_rfl, ?_⟩) ⟨b2.cell rfl, n2.cell rfl, n2.cell rfl⟩ ?_
  rotate_left
  · (rintro w ⟨s0, s1, s2⟩; go_simp; (first | done | rfl))
  try simp only [Act.put, List.getElem_toArray, List.getElem_cons_zero, List.getElem_cons_succ, List.setIfInBounds_toArray, List.set_cons_zero, List.set_cons_succ]
  refine wpAnyH_take (i := 20) (oi := _) (v := ?_) rfl (by kernel_rfl) (by kernel_rfl) (by kernel_rfl) (fun _ _ _ h => h) (Or.inl ⟨by kernel_rfl, ?_⟩) ⟨b2.cell rfl, n2.cell rfl, n2.cell rfl⟩ ?_
  rotate_left
  · (rintro w ⟨s0, s1, s2⟩; go_simp; (first | done | rfl))
  try simp only [Act.put, List.getElem_toArray, List.getElem_cons_zero, List.getElem_cons_succ, List.setIfInBounds_toArray, List.set_cons_zero, List.set_cons_succ]
  refine wpAnyH_take (i := 21) (oi := _) (v := ?_) rfl (by kernel_rfl) (by kernel_rfl) (by kernel_rfl) (fun _ _ _ h => h) (Or.inl ⟨by kernel_rfl, ?_⟩) ⟨b2.cell rfl, n2.cell rfl, n2.cell rfl⟩ ?_
  rotate_left
  · (rintro w ⟨s0, s1, s2⟩; go_simp; (first | done | rfl))
  try simp only [Act.put, List.getElem_toArray, List.getElem_cons_zero, List.getElem_cons_succ, List.setIfInBounds_toArray, List.set_cons_zero, List.set_cons_succ]
  refine wpAnyH_take (i := 22) (oi := _) (v := ?_) rfl (by kernel_rfl) (by kernel_rfl) (by kernel_rfl) (fun _ _ _ h => h) (Or.inl ⟨by kernel_rfl, ?_⟩) ⟨b2.cell rfl, n2.cell rfl, n2.cell rfl⟩ ?_
  rotate_left
  · (rintro w ⟨s0, s1, s2⟩; go_simp; (first | done | rfl))
  try simp only [Act.put, List.getElem_toArray, List.getElem_cons_zero, List.getElem_cons_succ, List.setIfInBounds_toArray, List.set_cons_zero, List.set_cons_succ]
  refine wpAnyH_take (i := 23) (oi := _) (v := ?_) rfl (by kernel_rfl) (by kernel_rfl) (by kernel_rfl) (fun _ _ _ h => h) (Or.inl ⟨by kernel_rfl, ?_⟩) ⟨b2.cell rfl, n2.cell rfl, n2.cell rfl⟩ ?_
  rotate_left
  · (rintro w ⟨s0, s1, s2⟩; go_simp; (first | done | rfl))
  try simp only [Act.put, List.getElem_toArray, List.getElem_cons_zero, List.getElem_cons_succ, List.setIfInBounds_toArray, List.set_cons_zero, List.set_cons_succ]
  refine wpAnyH_take (i := 24) (oi := _) (v := ?_) rfl (by kernel_rfl) (by kernel_rfl) (by kernel_rfl) (fun _ _ _ h => h) (Or.inl ⟨by kernel_rfl, ?_⟩) ⟨b2.cell rfl, n2.cell rfl, n2.cell rfl⟩ ?_
  rotate_left
  · (rintro w ⟨s0, s1, s2⟩; go_simp; (first | done | rfl))
  try simp only [Act.put, List.getElem_toArray, List.getElem_cons_zero, List.getElem_cons_succ, List.setIfInBounds_toArray, List.set_cons_zero, List.set_cons_succ]
  refine wpAnyH_done (by kernel_rfl) ?_ _
  refine NoPanic.normal ?_
  have x0 := n2.cell (j := 0) (u := .int .i64 kx.off) rfl
  have x1 := n2.cell (j := 1) (u := .int .i64 kx.len) rfl
  have x2 := n2.cell (j := 2) (u := .int .i64 kx.phys) rfl
  have x3 := n2.cell (j := 3) (u := .int .i64 kx.birth) rfl
  have xb := b2.cell (j := 0) (u := .pointer (some ⟨bl, 0, none⟩)) rfl
  go_wp2_with (first
    | (at_builtin
       go_must (refine wpList_app _ rfl (.tmp 55) (.tmp 61) _ rfl B 77 i0 _ 4 32 Try.underlying90 hi0 hz0 hz1 Hz.out rfl (by decide) _ m2 _ rfl (own_keep o2.drew ((Below.refl _ _).alloc (Nat.le_refl _) _)) _ 1 1 (ev kx) rfl (fun h => by cases h) (rd_one rfl) (by intro u hu; exact evs_one [kx] u (by simpa [evs] using hu)) (by unfold maxLen; omega) (by omega) (by simp; omega) ?_)
       intro v4 w4 hown4 hg4 hat4
       have o4 : Eo w4 B v4 (m2 + 1) ((acc ++ nearT L b e) ++ [kx]) := eo_of hown4 (evs_snoc _ _).symm)
    | fail)
  have ok4 := own_keep o2.drew ((Below.refl _ _).alloc (Nat.le_refl _) (.cells #[.int .i64 kx.off, .int .i64 kx.len, .int .i64 kx.phys, .int .i64 kx.birth] 77))
  have b4 := blk_own ((blk_drw b2).alloc _) (by decide) ok4 hg4
  have n4 := blk_own ((blk_drw n2).alloc _) (by decide) ok4 hg4
  have tR4 := tree_own ok4 hg4 (tR2.drew.alloc _)
  have ha4 := (ha2.drewR.alloc _).trans (After.app hg4 hat4)
  have hs4 : g ≤ w4.heap.size := Nat.le_trans hs2 (Nat.le_trans (by simp) hg4.size)
  obtain ⟨A4, cc4, rfl, -, -, -⟩ := own_form o4
  clear x0 x1 x2 x3 xb hown4 hg4 hat4 ok4 b2 n2 tR2 ha2
  refine wp_region_noPanic ?_
  refine wp_region_held_drew (S := (fun w' => w'.cell? ⟨g, 0, none⟩ = some (.pointer (some ⟨bl, 0, none⟩)) ∧ w'.cell? ⟨bl, 0, none⟩ = some (.int .i64 kx.off) ∧ w'.cell? ⟨bl, 1, none⟩ = some (.int .i64 kx.len))) (by kernel_rfl) ⟨b4.cell rfl, n4.cell rfl, n4.cell rfl⟩ (fun _ => ?_)
  refine wpAnyH_take (i := 0) (oi := _) (v := ?_) rfl (by kernel_rfl) (by kernel_rfl) (by kernel_rfl) (fun _ _ _ h => h) (Or.inl ⟨by kernel_rfl, ?_⟩) ⟨b4.cell rfl, n4.cell rfl, n4.cell rfl⟩ ?_
  rotate_left
  · (rintro w ⟨s0, s1, s2⟩; go_simp; (first | done | rfl))
  try simp only [Act.put, List.getElem_toArray, List.getElem_cons_zero, List.getElem_cons_succ, List.setIfInBounds_toArray, List.set_cons_zero, List.set_cons_succ]
  refine wpAnyH_take (i := 1) (oi := _) (v := ?_) rfl (by kernel_rfl) (by kernel_rfl) (by kernel_rfl) (fun _ _ _ h => h) (Or.inl ⟨by kernel_rfl, ?_⟩) ⟨b4.cell rfl, n4.cell rfl, n4.cell rfl⟩ ?_
  rotate_left
  · (rintro w ⟨s0, s1, s2⟩; go_simp; (first | done | rfl))
  try simp only [Act.put, List.getElem_toArray, List.getElem_cons_zero, List.getElem_cons_succ, List.setIfInBounds_toArray, List.set_cons_zero, List.set_cons_succ]
  refine wpAnyH_take (i := 2) (oi := _) (v := ?_) rfl (by kernel_rfl) (by kernel_rfl) (by kernel_rfl) (fun _ _ _ h => h) (Or.inl ⟨by kernel_rfl, ?_⟩) ⟨b4.cell rfl, n4.cell rfl, n4.cell rfl⟩ ?_
  rotate_left
  · (rintro w ⟨s0, s1, s2⟩; go_simp; (first | done | rfl))
  try simp only [Act.put, List.getElem_toArray, List.getElem_cons_zero, List.getElem_cons_succ, List.setIfInBounds_toArray, List.set_cons_zero, List.set_cons_succ]
  refine wpAnyH_take (i := 3) (oi := _) (v := ?_) rfl (by kernel_rfl) (by kernel_rfl) (by kernel_rfl) (fun _ _ _ h => h) (Or.inl ⟨by kernel_rfl, ?_⟩) ⟨b4.cell rfl, n4.cell rfl, n4.cell rfl⟩ ?_
  rotate_left
  · (rintro w ⟨s0, s1, s2⟩; go_simp; (first | done | rfl))
  try simp only [Act.put, List.getElem_toArray, List.getElem_cons_zero, List.getElem_cons_succ, List.setIfInBounds_toArray, List.set_cons_zero, List.set_cons_succ]
  refine wpAnyH_take (i := 4) (oi := _) (v := ?_) rfl (by kernel_rfl) (by kernel_rfl) (by kernel_rfl) (fun _ _ _ h => h) (Or.inl ⟨by kernel_rfl, ?_⟩) ⟨b4.cell rfl, n4.cell rfl, n4.cell rfl⟩ ?_
  rotate_left
  · (rintro w ⟨s0, s1, s2⟩; go_simp; (first | done | rfl))
  try simp only [Act.put, List.getElem_toArray, List.getElem_cons_zero, List.getElem_cons_succ, List.setIfInBounds_toArray, List.set_cons_zero, List.set_cons_succ]
  refine wpAnyH_take (i := 5) (oi := _) (v := ?_) rfl (by kernel_rfl) (by kernel_rfl) (by kernel_rfl) (fun _ _ _ h => h) (Or.inl ⟨by kernel_rfl, ?_⟩) ⟨b4.cell rfl, n4.cell rfl, n4.cell rfl⟩ ?_
  rotate_left
  · (rintro w ⟨s0, s1, s2⟩; go_simp; (first | done | rfl))
  try simp only [Act.put, List.getElem_toArray, List.getElem_cons_zero, List.getElem_cons_succ, List.setIfInBounds_toArray, List.set_cons_zero, List.set_cons_succ]
  refine wpAnyH_take (i := 6) (oi := _) (v := ?_) rfl (by kernel_rfl) (by kernel_rfl) (by kernel_rfl) (fun _ _ _ h => h) (Or.inl ⟨by kernel_rfl, ?_⟩) ⟨b4.cell rfl, n4.cell rfl, n4.cell rfl⟩ ?_
  rotate_left
  · (rintro w ⟨s0, s1, s2⟩; go_simp; (first | done | rfl))
  try simp only [Act.put, List.getElem_toArray, List.getElem_cons_zero, List.getElem_cons_succ, List.setIfInBounds_toArray, List.set_cons_zero, List.set_cons_succ]
  refine wpAnyH_take (i := 7) (oi := _) (v := ?_) rfl (by kernel_rfl) (by kernel_rfl) (by kernel_rfl) (fun _ _ _ h => h) (Or.inl ⟨by kernel_rfl, ?_⟩) ⟨b4.cell rfl, n4.cell rfl, n4.cell rfl⟩ ?_
  rotate_left
  · (rintro w ⟨s0, s1, s2⟩; go_simp; (first | done | rfl))
  try simp only [Act.put, List.getElem_toArray, List.getElem_cons_zero, List.getElem_cons_succ, List.setIfInBounds_toArray, List.set_cons_zero, List.set_cons_succ]
  refine wpAnyH_take (i := 8) (oi := _) (v := ?_) rfl (by kernel_rfl) (by kernel_rfl) (by kernel_rfl) (fun _ _ _ h => h) (Or.inl ⟨by kernel_rfl, ?_⟩) ⟨b4.cell rfl, n4.cell rfl, n4.cell rfl⟩ ?_
  rotate_left
  · (rintro w ⟨s0, s1, s2⟩; go_simp; (first | done | rfl))
  try simp only [Act.put, List.getElem_toArray, List.getElem_cons_zero, List.getElem_cons_succ, List.setIfInBounds_toArray, List.set_cons_zero, List.set_cons_succ]
  refine wpAnyH_take (i := 9) (oi := _) (v := ?_) rfl (by kernel_rfl) (by kernel_rfl) (by kernel_rfl) (fun _ _ _ h => h) (Or.inl ⟨by kernel_rfl, ?_⟩) ⟨b4.cell rfl, n4.cell rfl, n4.cell rfl⟩ ?_
  rotate_left
  · (rintro w ⟨s0, s1, s2⟩; go_simp; (first | done | rfl))
  try simp only [Act.put, List.getElem_toArray, List.getElem_cons_zero, List.getElem_cons_succ, List.setIfInBounds_toArray, List.set_cons_zero, List.set_cons_succ]
  refine wpAnyH_take (i := 10) (oi := _) (v := ?_) rfl (by kernel_rfl) (by kernel_rfl) (by kernel_rfl) (fun _ _ _ h => h) (Or.inl ⟨by kernel_rfl, ?_⟩) ⟨b4.cell rfl, n4.cell rfl, n4.cell rfl⟩ ?_
  rotate_left
  · (rintro w ⟨s0, s1, s2⟩; go_simp; (first | done | rfl))
  try simp only [Act.put, List.getElem_toArray, List.getElem_cons_zero, List.getElem_cons_succ, List.setIfInBounds_toArray, List.set_cons_zero, List.set_cons_succ]
  refine wpAnyH_take (i := 11) (oi := _) (v := ?_) rfl (by kernel_rfl) (by kernel_rfl) (by kernel_rfl) (fun _ _ _ h => h) (Or.inl ⟨by kernel_rfl, ?_⟩) ⟨b4.cell rfl, n4.cell rfl, n4.cell rfl⟩ ?_
  rotate_left
  · (rintro w ⟨s0, s1, s2⟩; go_simp; (first | done | rfl))
  try simp only [Act.put, List.getElem_toArray, List.getElem_cons_zero, List.getElem_cons_succ, List.setIfInBounds_toArray, List.set_cons_zero, List.set_cons_succ]
  refine wpAnyH_take (i := 12) (oi := _) (v := ?_) rfl (by kernel_rfl) (by kernel_rfl) (by kernel_rfl) (fun _ _ _ h => h) (Or.inl ⟨by kernel_rfl, ?_⟩) ⟨b4.cell rfl, n4.cell rfl, n4.cell rfl⟩ ?_
  rotate_left
  · (rintro w ⟨s0, s1, s2⟩; go_simp; (first | done | rfl))
  try simp only [Act.put, List.getElem_toArray, List.getElem_cons_zero, List.getElem_cons_succ, List.setIfInBounds_toArray, List.set_cons_zero, List.set_cons_succ]
  refine wpAnyH_take (i := 13) (oi := _) (v := ?_) rfl (by kernel_rfl) (by kernel_rfl) (by kernel_rfl) (fun _ _ _ h => h) (Or.inl ⟨by kernel_rfl, ?_⟩) ⟨b4.cell rfl, n4.cell rfl, n4.cell rfl⟩ ?_
  rotate_left
  · (rintro w ⟨s0, s1, s2⟩; go_simp; (first | done | rfl))
  try simp only [Act.put, List.getElem_toArray, List.getElem_cons_zero, List.getElem_cons_succ, List.setIfInBounds_toArray, List.set_cons_zero, List.set_cons_succ]
  refine wpAnyH_take (i := 14) (oi := _) (v := ?_) rfl (by kernel_rfl) (by kernel_rfl) (by kernel_rfl) (fun _ _ _ h => h) (Or.inl ⟨by kernel_rfl, ?_⟩) ⟨b4.cell rfl, n4.cell rfl, n4.cell rfl⟩ ?_
  rotate_left
  · (rintro w ⟨s0, s1, s2⟩; go_simp; (first | done | rfl))
  try simp only [Act.put, List.getElem_toArray, List.getElem_cons_zero, List.getElem_cons_succ, List.setIfInBounds_toArray, List.set_cons_zero, List.set_cons_succ]
  refine wpAnyH_done (by kernel_rfl) ?_ _
  refine NoPanic.normal ?_
  go_wp2
  go_ret
  exact ⟨_, _, rfl, o4, ha4.drewR⟩
set_option maxRecDepth 100000 in
set_option maxHeartbeats 4000000 in
theorem near_p3 (nw : Bool) (L R : Tr) (kx : Ext) (b e : Int) (fb : I64 b) (fe : I64 e) (hx : kx.may = true) (c1 : ¬ b ≤ kx.off) (hna : b ≤ kx.off + kx.len) (hnb : kx.off ≤ e) (c3 : kx.off + kx.len ≤ e) (hlL : (nearT L b e).length ≤ L.size) (ihL : Nears S L b e) (ihR : Nears S R b e) (a : Option Addr) (w : World) (B : Nat) (v : Value) (m : Nat) (acc : List Ext) (h : Tree w S a (.node nw L kx R)) (ho : Eo w B v m acc) (hB : B ≤ w.heap.size) (hs : m + (Tr.node nw L kx R).size ≤ 100000) :
    Calls Try.prog 59 #[.agg #[.pointer a], v, .int .i64 b, .int .i64 e] w fun en w' => ∃ v' m', en = .returned v' ∧ Eo w' B v' m' ((acc ++ [kx]) ++ nearT R b e) ∧ After w v w' v' := by
  obtain ⟨i0, hi0, hz0, hz1, hz2⟩ := ext_info
  have Hz := Lib.hid hz2
  clear hz2
  have hxl := may_len hx
  have hsz : m + L.size + R.size + 1 ≤ 100000 := by simp only [Tr.size] at hs; omega
  obtain ⟨bl, aL, aR, rfl, hbl, fkx, -, hL, hR⟩ := h
  unfold I64 at fb fe
  have hwx : IntKind.i64.wrap (kx.off + kx.len) = kx.off + kx.len := by rw [IntKind.wrap_i64]; omega
  obtain ⟨A, c, rfl, -, -, -⟩ := own_form ho
  obtain ⟨w1, hw1⟩ : ∃ w1, w1 = w.alloc (.cells #[.pointer (some ⟨bl, 0, none⟩)] 103) := ⟨_, rfl⟩
  have b1 : Blk w1 w.heap.size 103 #[.pointer (some ⟨bl, 0, none⟩)] := by rw [hw1]; exact Blk.new _ _ _ rfl
  have hB1 : Below w.heap.size w w1 := by rw [hw1]; exact (Below.refl _ _).alloc (Nat.le_refl _) _
  have ha1 : After w (.slice A m c) w1 (.slice A m c) := by rw [hw1]; exact (After.refl _ _).alloc _
  have n1 := hbl.keep hB1
  have tL1 := hL.below hB1
  have tR1 := hR.below hB1
  have o1 := own_keep ho hB1
  have e0 := b1.cell (j := 0) (u := .pointer (some ⟨bl, 0, none⟩)) rfl
  have e1 := n1.cell (j := 0) (u := .int .i64 kx.off) rfl
  have e4 := n1.cell (j := 4) (u := .pointer aL) rfl
  have Hm1 := Lib.hid (eo_len o1)
  have hs1 := hB1.size
  clear hbl hL hR ho hs hB1
  rw [hw1] at e0 e1 e4
  go_enter Try.func59, Try.ntmps59
  go_wp2_with fail
  rw [← hw1]
  clear hw1 e0 e1 e4
  generalize hg : w.heap.size = g at *
  have hM1 : m + R.size + 1 ≤ 100000 := by omega
  refine wp_region_noPanic ?_
  refine wp_region_held_drew (S := (fun w' => w'.cell? ⟨g, 0, none⟩ = some (.pointer (some ⟨bl, 0, none⟩)) ∧ w'.cell? ⟨bl, 0, none⟩ = some (.int .i64 kx.off) ∧ w'.cell? ⟨bl, 1, none⟩ = some (.int .i64 kx.len))) (by kernel_rfl) ⟨b1.cell rfl, n1.cell rfl, n1.cell rfl⟩ (fun _ => ?_)
  refine wpAnyH_take (i := 0) (oi := _) (v := ?_) rfl (by kernel_rfl) (by kernel_rfl) (by kernel_rfl) (fun _ _ _ h => h) (Or.inl ⟨by kernel_rfl, ?_⟩) ⟨b1.cell rfl, n1.cell rfl, n1.cell rfl⟩ ?_
  rotate_left
  · (rintro w ⟨s0, s1, s2⟩; go_simp; (first | done | rfl))
  try simp only [Act.put, List.getElem_toArray, List.getElem_cons_zero, List.getElem_cons_succ, List.setIfInBounds_toArray, List.set_cons_zero, List.set_cons_succ]
  refine wpAnyH_take (i := 1) (oi := _) (v := ?_) rfl (by kernel_rfl) (by kernel_rfl) (by kernel_rfl) (fun _ _ _ h => h) (Or.inl ⟨by kernel_rfl, ?_⟩) ⟨b1.cell rfl, n1.cell rfl, n1.cell rfl⟩ ?_
  rotate_left
  · (rintro w ⟨s0, s1, s2⟩; go_simp; (first | done | rfl))
  try simp only [Act.put, List.getElem_toArray, List.getElem_cons_zero, List.getElem_cons_succ, List.setIfInBounds_toArray, List.set_cons_zero, List.set_cons_succ]
  refine wpAnyH_take (i := 2) (oi := _) (v := ?_) rfl (by kernel_rfl) (by kernel_rfl) (by kernel_rfl) (fun _ _ _ h => h) (Or.inl ⟨by kernel_rfl, ?_⟩) ⟨b1.cell rfl, n1.cell rfl, n1.cell rfl⟩ ?_
  rotate_left
  · (rintro w ⟨s0, s1, s2⟩; go_simp; (first | done | rfl))
  try simp only [Act.put, List.getElem_toArray, List.getElem_cons_zero, List.getElem_cons_succ, List.setIfInBounds_toArray, List.set_cons_zero, List.set_cons_succ]
  refine wpAnyH_take (i := 3) (oi := _) (v := ?_) rfl (by kernel_rfl) (by kernel_rfl) (by kernel_rfl) (fun _ _ _ h => h) (Or.inl ⟨by kernel_rfl, ?_⟩) ⟨b1.cell rfl, n1.cell rfl, n1.cell rfl⟩ ?_
  rotate_left
  · (rintro w ⟨s0, s1, s2⟩; go_simp; (first | done | rfl))
  try simp only [Act.put, List.getElem_toArray, List.getElem_cons_zero, List.getElem_cons_succ, List.setIfInBounds_toArray, List.set_cons_zero, List.set_cons_succ]
  refine wpAnyH_take (i := 4) (oi := _) (v := ?_) rfl (by kernel_rfl) (by kernel_rfl) (by kernel_rfl) (fun _ _ _ h => h) (Or.inl ⟨by kernel_rfl, ?_⟩) ⟨b1.cell rfl, n1.cell rfl, n1.cell rfl⟩ ?_
  rotate_left
  · (rintro w ⟨s0, s1, s2⟩; go_simp; (first | done | rfl))
  try simp only [Act.put, List.getElem_toArray, List.getElem_cons_zero, List.getElem_cons_succ, List.setIfInBounds_toArray, List.set_cons_zero, List.set_cons_succ]
  refine wpAnyH_take (i := 5) (oi := _) (v := ?_) rfl (by kernel_rfl) (by kernel_rfl) (by kernel_rfl) (fun _ _ _ h => h) (Or.inl ⟨by kernel_rfl, ?_⟩) ⟨b1.cell rfl, n1.cell rfl, n1.cell rfl⟩ ?_
  rotate_left
  · (rintro w ⟨s0, s1, s2⟩; go_simp; (first | done | rfl))
  try simp only [Act.put, List.getElem_toArray, List.getElem_cons_zero, List.getElem_cons_succ, List.setIfInBounds_toArray, List.set_cons_zero, List.set_cons_succ]
  refine wpAnyH_take (i := 6) (oi := _) (v := ?_) rfl (by kernel_rfl) (by kernel_rfl) (by kernel_rfl) (fun _ _ _ h => h) (Or.inl ⟨by kernel_rfl, ?_⟩) ⟨b1.cell rfl, n1.cell rfl, n1.cell rfl⟩ ?_
  rotate_left
  · (rintro w ⟨s0, s1, s2⟩; go_simp; (first | done | rfl))
  try simp only [Act.put, List.getElem_toArray, List.getElem_cons_zero, List.getElem_cons_succ, List.setIfInBounds_toArray, List.set_cons_zero, List.set_cons_succ]
  refine wpAnyH_take (i := 7) (oi := _) (v := ?_) rfl (by kernel_rfl) (by kernel_rfl) (by kernel_rfl) (fun _ _ _ h => h) (Or.inl ⟨by kernel_rfl, ?_⟩) ⟨b1.cell rfl, n1.cell rfl, n1.cell rfl⟩ ?_
  rotate_left
  · (rintro w ⟨s0, s1, s2⟩; go_simp; (first | done | rfl))
  try simp only [Act.put, List.getElem_toArray, List.getElem_cons_zero, List.getElem_cons_succ, List.setIfInBounds_toArray, List.set_cons_zero, List.set_cons_succ]
  refine wpAnyH_take (i := 8) (oi := _) (v := ?_) rfl (by kernel_rfl) (by kernel_rfl) (by kernel_rfl) (fun _ _ _ h => h) (Or.inl ⟨by kernel_rfl, ?_⟩) ⟨b1.cell rfl, n1.cell rfl, n1.cell rfl⟩ ?_
  rotate_left
  · (rintro w ⟨s0, s1, s2⟩; go_simp; (first | done | rfl))
  try simp only [Act.put, List.getElem_toArray, List.getElem_cons_zero, List.getElem_cons_succ, List.setIfInBounds_toArray, List.set_cons_zero, List.set_cons_succ]
  refine wpAnyH_take (i := 9) (oi := _) (v := ?_) rfl (by kernel_rfl) (by kernel_rfl) (by kernel_rfl) (fun _ _ _ h => h) (Or.inl ⟨by kernel_rfl, ?_⟩) ⟨b1.cell rfl, n1.cell rfl, n1.cell rfl⟩ ?_
  rotate_left
  · (rintro w ⟨s0, s1, s2⟩; go_simp; (first | done | rfl))
  try simp only [Act.put, List.getElem_toArray, List.getElem_cons_zero, List.getElem_cons_succ, List.setIfInBounds_toArray, List.set_cons_zero, List.set_cons_succ]
  refine wpAnyH_take (i := 10) (oi := _) (v := ?_) rfl (by kernel_rfl) (by kernel_rfl) (by kernel_rfl) (fun _ _ _ h => h) (Or.inl ⟨by kernel_rfl, ?_⟩) ⟨b1.cell rfl, n1.cell rfl, n1.cell rfl⟩ ?_
  rotate_left
  · (rintro w ⟨s0, s1, s2⟩; go_simp; (first | done | rfl))
  try simp only [Act.put, List.getElem_toArray, List.getElem_cons_zero, List.getElem_cons_succ, List.setIfInBounds_toArray, List.set_cons_zero, List.set_cons_succ]
  refine wpAnyH_take (i := 11) (oi := _) (v := ?_) rfl (by kernel_rfl) (by kernel_rfl) (by kernel_rfl) (fun _ _ _ h => h) (Or.inl ⟨by kernel_rfl, ?_⟩) ⟨b1.cell rfl, n1.cell rfl, n1.cell rfl⟩ ?_
  rotate_left
  · (rintro w ⟨s0, s1, s2⟩; go_simp; (first | done | rfl))
  try simp only [Act.put, List.getElem_toArray, List.getElem_cons_zero, List.getElem_cons_succ, List.setIfInBounds_toArray, List.set_cons_zero, List.set_cons_succ]
  refine wpAnyH_take (i := 12) (oi := _) (v := ?_) rfl (by kernel_rfl) (by kernel_rfl) (by kernel_rfl) (fun _ _ _ h => h) (Or.inl ⟨by kernel_rfl, ?_⟩) ⟨b1.cell rfl, n1.cell rfl, n1.cell rfl⟩ ?_
  rotate_left
  · (rintro w ⟨s0, s1, s2⟩; go_simp; (first | done | rfl))
  try simp only [Act.put, List.getElem_toArray, List.getElem_cons_zero, List.getElem_cons_succ, List.setIfInBounds_toArray, List.set_cons_zero, List.set_cons_succ]
  refine wpAnyH_take (i := 13) (oi := _) (v := ?_) rfl (by kernel_rfl) (by kernel_rfl) (by kernel_rfl) (fun _ _ _ h => h) (Or.inl ⟨by kernel_rfl, ?_⟩) ⟨b1.cell rfl, n1.cell rfl, n1.cell rfl⟩ ?_
  rotate_left
  · (rintro w ⟨s0, s1, s2⟩; go_simp; (first | done | rfl))
  try simp only [Act.put, List.getElem_toArray, List.getElem_cons_zero, List.getElem_cons_succ, List.setIfInBounds_toArray, List.set_cons_zero, List.set_cons_succ]
  refine wpAnyH_take (i := 14) (oi := _) (v := ?_) rfl (by kernel_rfl) (by kernel_rfl) (by kernel_rfl) (fun _ _ _ h => h) (Or.inl ⟨by kernel_rfl, ?_⟩) ⟨b1.cell rfl, n1.cell rfl, n1.cell rfl⟩ ?_
  rotate_left
  · (rintro w ⟨s0, s1, s2⟩; go_simp; (first | done | rfl))
  try simp only [Act.put, List.getElem_toArray, List.getElem_cons_zero, List.getElem_cons_succ, List.setIfInBounds_toArray, List.set_cons_zero, List.set_cons_succ]
  refine wpAnyH_take (i := 15) (oi := _) (v := ?_) rfl (by kernel_rfl) (by kernel_rfl) (by kernel_rfl) (fun _ _ _ h => h) (Or.inl ⟨by kernel_rfl, ?_⟩) ⟨b1.cell rfl, n1.cell rfl, n1.cell rfl⟩ ?_
  rotate_left
  · (rintro w ⟨s0, s1, s2⟩; go_simp; (first | done | rfl))
  try simp only [Act.put, List.getElem_toArray, List.getElem_cons_zero, List.getElem_cons_succ, List.setIfInBounds_toArray, List.set_cons_zero, List.set_cons_succ]
  refine wpAnyH_take (i := 16) (oi := _) (v := ?_) rfl (by kernel_rfl) (by kernel_rfl) (by kernel_rfl) (fun _ _ _ h => h) (Or.inl ⟨by kernel_rfl, ?_⟩) ⟨b1.cell rfl, n1.cell rfl, n1.cell rfl⟩ ?_
  rotate_left
  · (rintro w ⟨s0, s1, s2⟩; go_simp; (first | done | rfl))
  try simp only [Act.put, List.getElem_toArray, List.getElem_cons_zero, List.getElem_cons_succ, List.setIfInBounds_toArray, List.set_cons_zero, List.set_cons_succ]
  refine wpAnyH_take (i := 17) (oi := _) (v := ?_) rfl (by kernel_rfl) (by kernel_rfl) (by kernel_rfl) (fun _ _ _ h => h) (Or.inl ⟨by kernel_rfl, ?_⟩) ⟨b1.cell rfl, n1.cell rfl, n1.cell rfl⟩ ?_
  rotate_left
  · (rintro w ⟨s0, s1, s2⟩; go_simp; (first | done | rfl))
  try simp only [Act.put, List.getElem_toArray, List.getElem_cons_zero, List.getElem_cons_succ, List.setIfInBounds_toArray, List.set_cons_zero, List.set_cons_succ]
  refine wpAnyH_take (i := 18) (oi := _) (v := ?_) rfl (by kernel_rfl) (by kernel_rfl) (by kernel_rfl) (fun _ _ _ h => h) (Or.inl ⟨by kernel_rfl, ?_⟩) ⟨b1.cell rfl, n1.cell rfl, n1.cell rfl⟩ ?_
  rotate_left
  · (rintro w ⟨s0, s1, s2⟩; go_simp; (first | done | rfl))
  try simp only [Act.put, List.getElem_toArray, List.getElem_cons_zero, List.getElem_cons_succ, List.setIfInBounds_toArray, List.set_cons_zero, List.set_cons_succ]
  refine wpAnyH_take (i := 19) (oi := _) (v := ?_) rfl (by kernel_rfl) (by kernel_rfl) (by kernel_rfl) (fun _ _ _ h => h) (Or.inl ⟨by kernel_rfl, ?_⟩) ⟨b1.cell rfl, n1.cell rfl, n1.cell rfl⟩ ?_
  rotate_left
  · (rintro w ⟨s0, s1, s2⟩; go_simp; (first | done | rfl))
  try simp only [Act.put, List.getElem_toArray, List.getElem_cons_zero, List.getElem_cons_succ, List.setIfInBounds_toArray, List.set_cons_zero, List.set_cons_succ]
  refine wpAnyH_take (i := 20) (oi := _) (v := ?_) rfl (by kernel_rfl) (by kernel_rfl) (by kernel_rfl) (fun _ _ _ h => h) (Or.inl ⟨by kernel_rfl, ?_⟩) ⟨b1.cell rfl, n1.cell rfl, n1.cell rfl⟩ ?_
  rotate_left
  · (rintro w ⟨s0, s1, s2⟩; go_simp; (first | done | rfl))
  try simp only [Act.put, List.getElem_toArray, List.getElem_cons_zero, List.getElem_cons_succ, List.setIfInBounds_toArray, List.set_cons_zero, List.set_cons_succ]
  refine wpAnyH_take (i := 21) (oi := _) (v := ?_) rfl (by kernel_rfl) (by kernel_rfl) (by kernel_rfl) (fun _ _ _ h => h) (Or.inl ⟨by kernel_rfl, ?_⟩) ⟨b1.cell rfl, n1.cell rfl, n1.cell rfl⟩ ?_
  rotate_left
  · (rintro w ⟨s0, s1, s2⟩; go_simp; (first | done | rfl))
  try simp only [Act.put, List.getElem_toArray, List.getElem_cons_zero, List.getElem_cons_succ, List.setIfInBounds_toArray, List.set_cons_zero, List.set_cons_succ]
  refine wpAnyH_take (i := 22) (oi := _) (v := ?_) rfl (by kernel_rfl) (by kernel_rfl) (by kernel_rfl) (fun _ _ _ h => h) (Or.inl ⟨by kernel_rfl, ?_⟩) ⟨b1.cell rfl, n1.cell rfl, n1.cell rfl⟩ ?_
  rotate_left
  · (rintro w ⟨s0, s1, s2⟩; go_simp; (first | done | rfl))
  try simp only [Act.put, List.getElem_toArray, List.getElem_cons_zero, List.getElem_cons_succ, List.setIfInBounds_toArray, List.set_cons_zero, List.set_cons_succ]
  refine wpAnyH_take (i := 23) (oi := _) (v := ?_) rfl (by kernel_rfl) (by kernel_rfl) (by kernel_rfl) (fun _ _ _ h => h) (Or.inl ⟨by kernel_rfl, ?_⟩) ⟨b1.cell rfl, n1.cell rfl, n1.cell rfl⟩ ?_
  rotate_left
  · (rintro w ⟨s0, s1, s2⟩; go_simp; (first | done | rfl))
  try simp only [Act.put, List.getElem_toArray, List.getElem_cons_zero, List.getElem_cons_succ, List.setIfInBounds_toArray, List.set_cons_zero, List.set_cons_succ]
  refine wpAnyH_take (i := 24) (oi := _) (v := ?_) rfl (by kernel_rfl) (by kernel_rfl) (by kernel_rfl) (fun _ _ _ h => h) (Or.inl ⟨by kernel_rfl, ?_⟩) ⟨b1.cell rfl, n1.cell rfl, n1.cell rfl⟩ ?_
  rotate_left
  · (rintro w ⟨s0, s1, s2⟩; go_simp; (first | done | rfl))
  try simp only [Act.put, List.getElem_toArray, List.getElem_cons_zero, List.getElem_cons_succ, List.setIfInBounds_toArray, List.set_cons_zero, List.set_cons_succ]
  refine wpAnyH_done (by kernel_rfl) ?_ _
  refine NoPanic.normal ?_
  have x0 := n1.cell (j := 0) (u := .int .i64 kx.off) rfl
  have x1 := n1.cell (j := 1) (u := .int .i64 kx.len) rfl
  have x2 := n1.cell (j := 2) (u := .int .i64 kx.phys) rfl
  have x3 := n1.cell (j := 3) (u := .int .i64 kx.birth) rfl
  have xb := b1.cell (j := 0) (u := .pointer (some ⟨bl, 0, none⟩)) rfl
  go_wp2_with (first
    | (at_builtin
       go_must (refine wpList_app _ rfl (.tmp 55) (.tmp 61) _ rfl B 77 i0 _ 4 32 Try.underlying90 hi0 hz0 hz1 Hz.out rfl (by decide) _ m _ rfl (own_keep o1.drew ((Below.refl _ _).alloc (Nat.le_refl _) _)) _ 1 1 (ev kx) rfl (fun h => by cases h) (rd_one rfl) (by intro u hu; exact evs_one [kx] u (by simpa [evs] using hu)) (by unfold maxLen; omega) (by omega) (by simp; omega) ?_)
       intro v4 w4 hown4 hg4 hat4
       have o4 : Eo w4 B v4 (m + 1) (acc ++ [kx]) := eo_of hown4 (evs_snoc _ _).symm)
    | fail)
  have ok4 := own_keep o1.drew ((Below.refl _ _).alloc (Nat.le_refl _) (.cells #[.int .i64 kx.off, .int .i64 kx.len, .int .i64 kx.phys, .int .i64 kx.birth] 77))
  have b4 := blk_own ((blk_drw b1).alloc _) (by decide) ok4 hg4
  have n4 := blk_own ((blk_drw n1).alloc _) (by decide) ok4 hg4
  have tR4 := tree_own ok4 hg4 (tR1.drew.alloc _)
  have ha4 := (ha1.drewR.alloc _).trans (After.app hg4 hat4)
  have hs4 : g ≤ w4.heap.size := Nat.le_trans hs1 (Nat.le_trans (by simp) hg4.size)
  obtain ⟨A4, cc4, rfl, -, -, -⟩ := own_form o4
  clear x0 x1 x2 x3 xb hown4 hg4 hat4 ok4 b1 n1 tR1 ha1
  refine wp_region_noPanic ?_
  refine wp_region_held_drew (S := (fun w' => w'.cell? ⟨g, 0, none⟩ = some (.pointer (some ⟨bl, 0, none⟩)) ∧ w'.cell? ⟨bl, 0, none⟩ = some (.int .i64 kx.off) ∧ w'.cell? ⟨bl, 1, none⟩ = some (.int .i64 kx.len))) (by kernel_rfl) ⟨b4.cell rfl, n4.cell rfl, n4.cell rfl⟩ (fun _ => ?_)
  refine wpAnyH_take (i := 0) (oi := _) (v := ?_) rfl (by kernel_rfl) (by kernel_rfl) (by kernel_rfl) (fun _ _ _ h => h) (Or.inl ⟨by kernel_rfl, ?_⟩) ⟨b4.cell rfl, n4.cell rfl, n4.cell rfl⟩ ?_
  rotate_left
  · (rintro w ⟨s0, s1, s2⟩; go_simp; (first | done | rfl))
  try simp only [Act.put, List.getElem_toArray, List.getElem_cons_zero, List.getElem_cons_succ, List.setIfInBounds_toArray, List.set_cons_zero, List.set_cons_succ]
  refine wpAnyH_take (i := 1) (oi := _) (v := ?_) rfl (by kernel_rfl) (by kernel_rfl) (by kernel_rfl) (fun _ _ _ h => h) (Or.inl ⟨by kernel_rfl, ?_⟩) ⟨b4.cell rfl, n4.cell rfl, n4.cell rfl⟩ ?_
  rotate_left
  · (rintro w ⟨s0, s1, s2⟩; go_simp; (first | done | rfl))
  try simp only [Act.put, List.getElem_toArray, List.getElem_cons_zero, List.getElem_cons_succ, List.setIfInBounds_toArray, List.set_cons_zero, List.set_cons_succ]
  refine wpAnyH_take (i := 2) (oi := _) (v := ?_) rfl (by kernel_rfl) (by kernel_rfl) (by kernel_rfl) (fun _ _ _ h => h) (Or.inl ⟨by kernel_rfl, ?_⟩) ⟨b4.cell rfl, n4.cell rfl, n4.cell rfl⟩ ?_
  rotate_left
  · (rintro w ⟨s0, s1, s2⟩; go_simp; (first | done | rfl))
  try simp only [Act.put, List.getElem_toArray, List.getElem_cons_zero, List.getElem_cons_succ, List.setIfInBounds_toArray, List.set_cons_zero, List.set_cons_succ]
  refine wpAnyH_take (i := 3) (oi := _) (v := ?_) rfl (by kernel_rfl) (by kernel_rfl) (by kernel_rfl) (fun _ _ _ h => h) (Or.inl ⟨by kernel_rfl, ?_⟩) ⟨b4.cell rfl, n4.cell rfl, n4.cell rfl⟩ ?_
  rotate_left
  · (rintro w ⟨s0, s1, s2⟩; go_simp; (first | done | rfl))
  try simp only [Act.put, List.getElem_toArray, List.getElem_cons_zero, List.getElem_cons_succ, List.setIfInBounds_toArray, List.set_cons_zero, List.set_cons_succ]
  refine wpAnyH_take (i := 4) (oi := _) (v := ?_) rfl (by kernel_rfl) (by kernel_rfl) (by kernel_rfl) (fun _ _ _ h => h) (Or.inl ⟨by kernel_rfl, ?_⟩) ⟨b4.cell rfl, n4.cell rfl, n4.cell rfl⟩ ?_
  rotate_left
  · (rintro w ⟨s0, s1, s2⟩; go_simp; (first | done | rfl))
  try simp only [Act.put, List.getElem_toArray, List.getElem_cons_zero, List.getElem_cons_succ, List.setIfInBounds_toArray, List.set_cons_zero, List.set_cons_succ]
  refine wpAnyH_take (i := 5) (oi := _) (v := ?_) rfl (by kernel_rfl) (by kernel_rfl) (by kernel_rfl) (fun _ _ _ h => h) (Or.inl ⟨by kernel_rfl, ?_⟩) ⟨b4.cell rfl, n4.cell rfl, n4.cell rfl⟩ ?_
  rotate_left
  · (rintro w ⟨s0, s1, s2⟩; go_simp; (first | done | rfl))
  try simp only [Act.put, List.getElem_toArray, List.getElem_cons_zero, List.getElem_cons_succ, List.setIfInBounds_toArray, List.set_cons_zero, List.set_cons_succ]
  refine wpAnyH_take (i := 6) (oi := _) (v := ?_) rfl (by kernel_rfl) (by kernel_rfl) (by kernel_rfl) (fun _ _ _ h => h) (Or.inl ⟨by kernel_rfl, ?_⟩) ⟨b4.cell rfl, n4.cell rfl, n4.cell rfl⟩ ?_
  rotate_left
  · (rintro w ⟨s0, s1, s2⟩; go_simp; (first | done | rfl))
  try simp only [Act.put, List.getElem_toArray, List.getElem_cons_zero, List.getElem_cons_succ, List.setIfInBounds_toArray, List.set_cons_zero, List.set_cons_succ]
  refine wpAnyH_take (i := 7) (oi := _) (v := ?_) rfl (by kernel_rfl) (by kernel_rfl) (by kernel_rfl) (fun _ _ _ h => h) (Or.inl ⟨by kernel_rfl, ?_⟩) ⟨b4.cell rfl, n4.cell rfl, n4.cell rfl⟩ ?_
  rotate_left
  · (rintro w ⟨s0, s1, s2⟩; go_simp; (first | done | rfl))
  try simp only [Act.put, List.getElem_toArray, List.getElem_cons_zero, List.getElem_cons_succ, List.setIfInBounds_toArray, List.set_cons_zero, List.set_cons_succ]
  refine wpAnyH_take (i := 8) (oi := _) (v := ?_) rfl (by kernel_rfl) (by kernel_rfl) (by kernel_rfl) (fun _ _ _ h => h) (Or.inl ⟨by kernel_rfl, ?_⟩) ⟨b4.cell rfl, n4.cell rfl, n4.cell rfl⟩ ?_
  rotate_left
  · (rintro w ⟨s0, s1, s2⟩; go_simp; (first | done | rfl))
  try simp only [Act.put, List.getElem_toArray, List.getElem_cons_zero, List.getElem_cons_succ, List.setIfInBounds_toArray, List.set_cons_zero, List.set_cons_succ]
  refine wpAnyH_take (i := 9) (oi := _) (v := ?_) rfl (by kernel_rfl) (by kernel_rfl) (by kernel_rfl) (fun _ _ _ h => h) (Or.inl ⟨by kernel_rfl, ?_⟩) ⟨b4.cell rfl, n4.cell rfl, n4.cell rfl⟩ ?_
  rotate_left
  · (rintro w ⟨s0, s1, s2⟩; go_simp; (first | done | rfl))
  try simp only [Act.put, List.getElem_toArray, List.getElem_cons_zero, List.getElem_cons_succ, List.setIfInBounds_toArray, List.set_cons_zero, List.set_cons_succ]
  refine wpAnyH_take (i := 10) (oi := _) (v := ?_) rfl (by kernel_rfl) (by kernel_rfl) (by kernel_rfl) (fun _ _ _ h => h) (Or.inl ⟨by kernel_rfl, ?_⟩) ⟨b4.cell rfl, n4.cell rfl, n4.cell rfl⟩ ?_
  rotate_left
  · (rintro w ⟨s0, s1, s2⟩; go_simp; (first | done | rfl))
  try simp only [Act.put, List.getElem_toArray, List.getElem_cons_zero, List.getElem_cons_succ, List.setIfInBounds_toArray, List.set_cons_zero, List.set_cons_succ]
  refine wpAnyH_take (i := 11) (oi := _) (v := ?_) rfl (by kernel_rfl) (by kernel_rfl) (by kernel_rfl) (fun _ _ _ h => h) (Or.inl ⟨by kernel_rfl, ?_⟩) ⟨b4.cell rfl, n4.cell rfl, n4.cell rfl⟩ ?_
  rotate_left
  · (rintro w ⟨s0, s1, s2⟩; go_simp; (first | done | rfl))
  try simp only [Act.put, List.getElem_toArray, List.getElem_cons_zero, List.getElem_cons_succ, List.setIfInBounds_toArray, List.set_cons_zero, List.set_cons_succ]
  refine wpAnyH_take (i := 12) (oi := _) (v := ?_) rfl (by kernel_rfl) (by kernel_rfl) (by kernel_rfl) (fun _ _ _ h => h) (Or.inl ⟨by kernel_rfl, ?_⟩) ⟨b4.cell rfl, n4.cell rfl, n4.cell rfl⟩ ?_
  rotate_left
  · (rintro w ⟨s0, s1, s2⟩; go_simp; (first | done | rfl))
  try simp only [Act.put, List.getElem_toArray, List.getElem_cons_zero, List.getElem_cons_succ, List.setIfInBounds_toArray, List.set_cons_zero, List.set_cons_succ]
  refine wpAnyH_take (i := 13) (oi := _) (v := ?_) rfl (by kernel_rfl) (by kernel_rfl) (by kernel_rfl) (fun _ _ _ h => h) (Or.inl ⟨by kernel_rfl, ?_⟩) ⟨b4.cell rfl, n4.cell rfl, n4.cell rfl⟩ ?_
  rotate_left
  · (rintro w ⟨s0, s1, s2⟩; go_simp; (first | done | rfl))
  try simp only [Act.put, List.getElem_toArray, List.getElem_cons_zero, List.getElem_cons_succ, List.setIfInBounds_toArray, List.set_cons_zero, List.set_cons_succ]
  refine wpAnyH_take (i := 14) (oi := _) (v := ?_) rfl (by kernel_rfl) (by kernel_rfl) (by kernel_rfl) (fun _ _ _ h => h) (Or.inl ⟨by kernel_rfl, ?_⟩) ⟨b4.cell rfl, n4.cell rfl, n4.cell rfl⟩ ?_
  rotate_left
  · (rintro w ⟨s0, s1, s2⟩; go_simp; (first | done | rfl))
  try simp only [Act.put, List.getElem_toArray, List.getElem_cons_zero, List.getElem_cons_succ, List.setIfInBounds_toArray, List.set_cons_zero, List.set_cons_succ]
  refine wpAnyH_done (by kernel_rfl) ?_ _
  refine NoPanic.normal ?_
  have y0 := b4.cell (j := 0) (u := .pointer (some ⟨bl, 0, none⟩)) rfl
  have y5 := n4.cell (j := 5) (u := .pointer aR) rfl
  go_wp2_with fail
  refine (ihR aR w4.drew B (.slice A4 (m + 1) cc4) (m + 1) (acc ++ [kx]) tR4.drew o4.drew (Nat.le_trans hB hs4) (by omega)).mono ?_
  rintro en w6 ⟨v6, m6, rfl, o6, ha6⟩
  obtain ⟨A6, cc6, rfl, -, -, -⟩ := own_form o6
  go_wp2
  go_ret
  exact ⟨_, _, rfl, o6, ha4.drewR.trans ha6⟩
end
end Go.Proofs.Ytfcfffilfmbpeaa

namespace Go.Proofs.Ytfcfffilfmbpeaa
open Go.RowKit

section
variable (S : Nat → Prop)
set_option maxRecDepth 100000 in
set_option maxHeartbeats 4000000 in
theorem near_p4 (nw : Bool) (L R : Tr) (kx : Ext) (b e : Int) (fb : I64 b) (fe : I64 e) (hx : kx.may = true) (c1 : ¬ b ≤ kx.off) (hna : b ≤ kx.off + kx.len) (hnb : kx.off ≤ e) (c3 : ¬ kx.off + kx.len ≤ e) (hlL : (nearT L b e).length ≤ L.size) (ihL : Nears S L b e) (ihR : Nears S R b e) (a : Option Addr) (w : World) (B : Nat) (v : Value) (m : Nat) (acc : List Ext) (h : Tree w S a (.node nw L kx R)) (ho : Eo w B v m acc) (hB : B ≤ w.heap.size) (hs : m + (Tr.node nw L kx R).size ≤ 100000) :
    Calls Try.prog 59 #[.agg #[.pointer a], v, .int .i64 b, .int .i64 e] w fun en w' => ∃ v' m', en = .returned v' ∧ Eo w' B v' m' (acc ++ [kx]) ∧ After w v w' v' := by
  have hdc : decide (kx.off + kx.len ≤ e) = false := decide_eq_false c3
  obtain ⟨i0, hi0, hz0, hz1, hz2⟩ := ext_info
  have Hz := Lib.hid hz2
  clear hz2
  have hxl := may_len hx
  have hsz : m + L.size + R.size + 1 ≤ 100000 := by simp only [Tr.size] at hs; omega
  obtain ⟨bl, aL, aR, rfl, hbl, fkx, -, hL, hR⟩ := h
  unfold I64 at fb fe
  have hwx : IntKind.i64.wrap (kx.off + kx.len) = kx.off + kx.len := by rw [IntKind.wrap_i64]; omega
  obtain ⟨A, c, rfl, -, -, -⟩ := own_form ho
  obtain ⟨w1, hw1⟩ : ∃ w1, w1 = w.alloc (.cells #[.pointer (some ⟨bl, 0, none⟩)] 103) := ⟨_, rfl⟩
  have b1 : Blk w1 w.heap.size 103 #[.pointer (some ⟨bl, 0, none⟩)] := by rw [hw1]; exact Blk.new _ _ _ rfl
  have hB1 : Below w.heap.size w w1 := by rw [hw1]; exact (Below.refl _ _).alloc (Nat.le_refl _) _
  have ha1 : After w (.slice A m c) w1 (.slice A m c) := by rw [hw1]; exact (After.refl _ _).alloc _
  have n1 := hbl.keep hB1
  have tL1 := hL.below hB1
  have tR1 := hR.below hB1
  have o1 := own_keep ho hB1
  have e0 := b1.cell (j := 0) (u := .pointer (some ⟨bl, 0, none⟩)) rfl
  have e1 := n1.cell (j := 0) (u := .int .i64 kx.off) rfl
  have e4 := n1.cell (j := 4) (u := .pointer aL) rfl
  have Hm1 := Lib.hid (eo_len o1)
  have hs1 := hB1.size
  clear hbl hL hR ho hs hB1
  rw [hw1] at e0 e1 e4
  go_enter Try.func59, Try.ntmps59
  go_wp2_with fail
  rw [← hw1]
  clear hw1 e0 e1 e4
  generalize hg : w.heap.size = g at *
  have hM1 : m + R.size + 1 ≤ 100000 := by omega
  refine wp_region_noPanic ?_
  refine wp_region_held_drew (S := (fun w' => w'.cell? ⟨g, 0, none⟩ = some (.pointer (some ⟨bl, 0, none⟩)) ∧ w'.cell? ⟨bl, 0, none⟩ = some (.int .i64 kx.off) ∧ w'.cell? ⟨bl, 1, none⟩ = some (.int .i64 kx.len))) (by kernel_rfl) ⟨b1.cell rfl, n1.cell rfl, n1.cell rfl⟩ (fun _ => ?_)
  refine wpAnyH_take (i := 0) (oi := _) (v := ?_) rfl (by kernel_rfl) (by kernel_rfl) (by kernel_rfl) (fun _ _ _ h => h) (Or.inl ⟨by kernel_rfl, ?_⟩) ⟨b1.cell rfl, n1.cell rfl, n1.cell rfl⟩ ?_
  rotate_left
  · (rintro w ⟨s0, s1, s2⟩; go_simp; (first | done | rfl))
  try simp only [Act.put, List.getElem_toArray, List.getElem_cons_zero, List.getElem_cons_succ, List.setIfInBounds_toArray, List.set_cons_zero, List.set_cons_succ]
  refine wpAnyH_take (i := 1) (oi := _) (v := ?_) rfl (by kernel_rfl) (by kernel_rfl) (by kernel_rfl) (fun _ _ _ h => h) (Or.inl ⟨by kernel_rfl, ?_⟩) ⟨b1.cell rfl, n1.cell rfl, n1.cell rfl⟩ ?_
  rotate_left
  · (rintro w ⟨s0, s1, s2⟩; go_simp; (first | done | rfl))
  try simp only [Act.put, List.getElem_toArray, List.getElem_cons_zero, List.getElem_cons_succ, List.setIfInBounds_toArray, List.set_cons_zero, List.set_cons_succ]
  refine wpAnyH_take (i := 2) (oi := _) (v := ?_) rfl (by kernel_rfl) (by kernel_rfl) (by kernel_rfl) (fun _ _ _ h => h) (Or.inl ⟨by kernel_rfl, ?_⟩) ⟨b1.cell rfl, n1.cell rfl, n1.cell rfl⟩ ?_
  rotate_left
  · (rintro w ⟨s0, s1, s2⟩; go_simp; (first | done | rfl))
  try simp only [Act.put, List.getElem_toArray, List.getElem_cons_zero, List.getElem_cons_succ, List.setIfInBounds_toArray, List.set_cons_zero, List.set_cons_succ]
  refine wpAnyH_take (i := 3) (oi := _) (v := ?_) rfl (by kernel_rfl) (by kernel_rfl) (by kernel_rfl) (fun _ _ _ h => h) (Or.inl ⟨by kernel_rfl, ?_⟩) ⟨b1.cell rfl, n1.cell rfl, n1.cell rfl⟩ ?_
  rotate_left
  · (rintro w ⟨s0, s1, s2⟩; go_simp; (first | done | rfl))
  try simp only [Act.put, List.getElem_toArray, List.getElem_cons_zero, List.getElem_cons_succ, List.setIfInBounds_toArray, List.set_cons_zero, List.set_cons_succ]
  refine wpAnyH_take (i := 4) (oi := _) (v := ?_) rfl (by kernel_rfl) (by kernel_rfl) (by kernel_rfl) (fun _ _ _ h => h) (Or.inl ⟨by kernel_rfl, ?_⟩) ⟨b1.cell rfl, n1.cell rfl, n1.cell rfl⟩ ?_
  rotate_left
  · (rintro w ⟨s0, s1, s2⟩; go_simp; (first | done | rfl))
  try simp only [Act.put, List.getElem_toArray, List.getElem_cons_zero, List.getElem_cons_succ, List.setIfInBounds_toArray, List.set_cons_zero, List.set_cons_succ]
  refine wpAnyH_take (i := 5) (oi := _) (v := ?_) rfl (by kernel_rfl) (by kernel_rfl) (by kernel_rfl) (fun _ _ _ h => h) (Or.inl ⟨by kernel_rfl, ?_⟩) ⟨b1.cell rfl, n1.cell rfl, n1.cell rfl⟩ ?_
  rotate_left
  · (rintro w ⟨s0, s1, s2⟩; go_simp; (first | done | rfl))
  try simp only [Act.put, List.getElem_toArray, List.getElem_cons_zero, List.getElem_cons_succ, List.setIfInBounds_toArray, List.set_cons_zero, List.set_cons_succ]
  refine wpAnyH_take (i := 6) (oi := _) (v := ?_) rfl (by kernel_rfl) (by kernel_rfl) (by kernel_rfl) (fun _ _ _ h => h) (Or.inl ⟨by kernel_rfl, ?_⟩) ⟨b1.cell rfl, n1.cell rfl, n1.cell rfl⟩ ?_
  rotate_left
  · (rintro w ⟨s0, s1, s2⟩; go_simp; (first | done | rfl))
  try simp only [Act.put, List.getElem_toArray, List.getElem_cons_zero, List.getElem_cons_succ, List.setIfInBounds_toArray, List.set_cons_zero, List.set_cons_succ]
  refine wpAnyH_take (i := 7) (oi := _) (v := ?_) rfl (by kernel_rfl) (by kernel_rfl) (by kernel_rfl) (fun _ _ _ h => h) (Or.inl ⟨by kernel_rfl, ?_⟩) ⟨b1.cell rfl, n1.cell rfl, n1.cell rfl⟩ ?_
  rotate_left
  · (rintro w ⟨s0, s1, s2⟩; go_simp; (first | done | rfl))
  try simp only [Act.put, List.getElem_toArray, List.getElem_cons_zero, List.getElem_cons_succ, List.setIfInBounds_toArray, List.set_cons_zero, List.set_cons_succ]
  refine wpAnyH_take (i := 8) (oi := _) (v := ?_) rfl (by kernel_rfl) (by kernel_rfl) (by kernel_rfl) (fun _ _ _ h => h) (Or.inl ⟨by kernel_rfl, ?_⟩) ⟨b1.cell rfl, n1.cell rfl, n1.cell rfl⟩ ?_
  rotate_left
  · (rintro w ⟨s0, s1, s2⟩; go_simp; (first | done | rfl))
  try simp only [Act.put, List.getElem_toArray, List.getElem_cons_zero, List.getElem_cons_succ, List.setIfInBounds_toArray, List.set_cons_zero, List.set_cons_succ]
  refine wpAnyH_take (i := 9) (oi := _) (v := ?_) rfl (by kernel_rfl) (by kernel_rfl) (by kernel_rfl) (fun _ _ _ h => h) (Or.inl ⟨by kernel_rfl, ?_⟩) ⟨b1.cell rfl, n1.cell rfl, n1.cell rfl⟩ ?_
  rotate_left
  · (rintro w ⟨s0, s1, s2⟩; go_simp; (first | done | rfl))
  try simp only [Act.put, List.getElem_toArray, List.getElem_cons_zero, List.getElem_cons_succ, List.setIfInBounds_toArray, List.set_cons_zero, List.set_cons_succ]
  refine wpAnyH_take (i := 10) (oi := _) (v := ?_) rfl (by kernel_rfl) (by kernel_rfl) (by kernel_rfl) (fun _ _ _ h => h) (Or.inl ⟨by kernel_rfl, ?_⟩) ⟨b1.cell rfl, n1.cell rfl, n1.cell rfl⟩ ?_
  rotate_left
  · (rintro w ⟨s0, s1, s2⟩; go_simp; (first | done | rfl))
  try simp only [Act.put, List.getElem_toArray, List.getElem_cons_zero, List.getElem_cons_succ, List.setIfInBounds_toArray, List.set_cons_zero, List.set_cons_succ]
  refine wpAnyH_take (i := 11) (oi := _) (v := ?_) rfl (by kernel_rfl) (by kernel_rfl) (by kernel_rfl) (fun _ _ _ h => h) (Or.inl ⟨by kernel_rfl, ?_⟩) ⟨b1.cell rfl, n1.cell rfl, n1.cell rfl⟩ ?_
  rotate_left
  · (rintro w ⟨s0, s1, s2⟩; go_simp; (first | done | rfl))
  try simp only [Act.put, List.getElem_toArray, List.getElem_cons_zero, List.getElem_cons_succ, List.setIfInBounds_toArray, List.set_cons_zero, List.set_cons_succ]
  refine wpAnyH_take (i := 12) (oi := _) (v := ?_) rfl (by kernel_rfl) (by kernel_rfl) (by kernel_rfl) (fun _ _ _ h => h) (Or.inl ⟨by kernel_rfl, ?_⟩) ⟨b1.cell rfl, n1.cell rfl, n1.cell rfl⟩ ?_
  rotate_left
  · (rintro w ⟨s0, s1, s2⟩; go_simp; (first | done | rfl))
  try simp only [Act.put, List.getElem_toArray, List.getElem_cons_zero, List.getElem_cons_succ, List.setIfInBounds_toArray, List.set_cons_zero, List.set_cons_succ]
  refine wpAnyH_take (i := 13) (oi := _) (v := ?_) rfl (by kernel_rfl) (by kernel_rfl) (by kernel_rfl) (fun _ _ _ h => h) (Or.inl ⟨by kernel_rfl, ?_⟩) ⟨b1.cell rfl, n1.cell rfl, n1.cell rfl⟩ ?_
  rotate_left
  · (rintro w ⟨s0, s1, s2⟩; go_simp; (first | done | rfl))
  try simp only [Act.put, List.getElem_toArray, List.getElem_cons_zero, List.getElem_cons_succ, List.setIfInBounds_toArray, List.set_cons_zero, List.set_cons_succ]
  refine wpAnyH_take (i := 14) (oi := _) (v := ?_) rfl (by kernel_rfl) (by kernel_rfl) (by kernel_rfl) (fun _ _ _ h => h) (Or.inl ⟨by kernel_rfl, ?_⟩) ⟨b1.cell rfl, n1.cell rfl, n1.cell rfl⟩ ?_
  rotate_left
  · (rintro w ⟨s0, s1, s2⟩; go_simp; (first | done | rfl))
  try simp only [Act.put, List.getElem_toArray, List.getElem_cons_zero, List.getElem_cons_succ, List.setIfInBounds_toArray, List.set_cons_zero, List.set_cons_succ]
  refine wpAnyH_take (i := 15) (oi := _) (v := ?_) rfl (by kernel_rfl) (by kernel_rfl) (by kernel_rfl) (fun _ _ _ h => h) (Or.inl ⟨by kernel_rfl, ?_⟩) ⟨b1.cell rfl, n1.cell rfl, n1.cell rfl⟩ ?_
  rotate_left
  · (rintro w ⟨s0, s1, s2⟩; go_simp; (first | done | rfl))
  try simp only [Act.put, List.getElem_toArray, List.getElem_cons_zero, List.getElem_cons_succ, List.setIfInBounds_toArray, List.set_cons_zero, List.set_cons_succ]
  refine wpAnyH_take (i := 16) (oi := _) (v := ?_) rfl (by kernel_rfl) (by kernel_rfl) (by kernel_rfl) (fun _ _ _ h => h) (Or.inl ⟨by kernel_rfl, ?_⟩) ⟨b1.cell rfl, n1.cell rfl, n1.cell rfl⟩ ?_
  rotate_left
  · (rintro w ⟨s0, s1, s2⟩; go_simp; (first | done | rfl))
  try simp only [Act.put, List.getElem_toArray, List.getElem_cons_zero, List.getElem_cons_succ, List.setIfInBounds_toArray, List.set_cons_zero, List.set_cons_succ]
  refine wpAnyH_take (i := 17) (oi := _) (v := ?_) rfl (by kernel_rfl) (by kernel_rfl) (by kernel_rfl) (fun _ _ _ h => h) (Or.inl ⟨by kernel_rfl, ?_⟩) ⟨b1.cell rfl, n1.cell rfl, n1.cell rfl⟩ ?_
  rotate_left
  · (rintro w ⟨s0, s1, s2⟩; go_simp; (first | done | rfl))
  try simp only [Act.put, List.getElem_toArray, List.getElem_cons_zero, List.getElem_cons_succ, List.setIfInBounds_toArray, List.set_cons_zero, List.set_cons_succ]
  refine wpAnyH_take (i := 18) (oi := _) (v := ?_) rfl (by kernel_rfl) (by kernel_rfl) (by kernel_rfl) (fun _ _ _ h => h) (Or.inl ⟨by kernel_rfl, ?_⟩) ⟨b1.cell rfl, n1.cell rfl, n1.cell rfl⟩ ?_
  rotate_left
  · (rintro w ⟨s0, s1, s2⟩; go_simp; (first | done | rfl))
  try simp only [Act.put, List.getElem_toArray, List.getElem_cons_zero, List.getElem_cons_succ, List.setIfInBounds_toArray, List.set_cons_zero, List.set_cons_succ]
  refine wpAnyH_take (i := 19) (oi := _) (v := ?_) rfl (by kernel_rfl) (by kernel_rfl) (by kernel_rfl) (fun _ _ _ h => h) (Or.inl ⟨by kernel_rfl, ?_⟩) ⟨b1.cell rfl, n1.cell rfl, n1.cell rfl⟩ ?_
  rotate_left
  · (rintro w ⟨s0, s1, s2⟩; go_simp; (first | done | rfl))
  try simp only [Act.put, List.getElem_toArray, List.getElem_cons_zero, List.getElem_cons_succ, List.setIfInBounds_toArray, List.set_cons_zero, List.set_cons_succ]
  refine wpAnyH_take (i := 20) (oi := _) (v := ?_) rfl (by kernel_rfl) (by kernel_rfl) (by kernel_rfl) (fun _ _ _ h => h) (Or.inl ⟨by kernel_rfl, ?_⟩) ⟨b1.cell rfl, n1.cell rfl, n1.cell rfl⟩ ?_
  rotate_left
  · (rintro w ⟨s0, s1, s2⟩; go_simp; (first | done | rfl))
  try simp only [Act.put, List.getElem_toArray, List.getElem_cons_zero, List.getElem_cons_succ, List.setIfInBounds_toArray, List.set_cons_zero, List.set_cons_succ]
  refine wpAnyH_take (i := 21) (oi := _) (v := ?_) rfl (by kernel_rfl) (by kernel_rfl) (by kernel_rfl) (fun _ _ _ h => h) (Or.inl ⟨by kernel_rfl, ?_⟩) ⟨b1.cell rfl, n1.cell rfl, n1.cell rfl⟩ ?_
  rotate_left
  · (rintro w ⟨s0, s1, s2⟩; go_simp; (first | done | rfl))
  try simp only [Act.put, List.getElem_toArray, List.getElem_cons_zero, List.getElem_cons_succ, List.setIfInBounds_toArray, List.set_cons_zero, List.set_cons_succ]
  refine wpAnyH_take (i := 22) (oi := _) (v := ?_) rfl (by kernel_rfl) (by kernel_rfl) (by kernel_rfl) (fun _ _ _ h => h) (Or.inl ⟨by kernel_rfl, ?_⟩) ⟨b1.cell rfl, n1.cell rfl, n1.cell rfl⟩ ?_
  rotate_left
  · (rintro w ⟨s0, s1, s2⟩; go_simp; (first | done | rfl))
  try simp only [Act.put, List.getElem_toArray, List.getElem_cons_zero, List.getElem_cons_succ, List.setIfInBounds_toArray, List.set_cons_zero, List.set_cons_succ]
  refine wpAnyH_take (i := 23) (oi := _) (v := ?_) rfl (by kernel_rfl) (by kernel_rfl) (by kernel_rfl) (fun _ _ _ h => h) (Or.inl ⟨by kernel_rfl, ?_⟩) ⟨b1.cell rfl, n1.cell rfl, n1.cell rfl⟩ ?_
  rotate_left
  · (rintro w ⟨s0, s1, s2⟩; go_simp; (first | done | rfl))
  try simp only [Act.put, List.getElem_toArray, List.getElem_cons_zero, List.getElem_cons_succ, List.setIfInBounds_toArray, List.set_cons_zero, List.set_cons_succ]
  refine wpAnyH_take (i := 24) (oi := _) (v := ?_) rfl (by kernel_rfl) (by kernel_rfl) (by kernel_rfl) (fun _ _ _ h => h) (Or.inl ⟨by kernel_rfl, ?_⟩) ⟨b1.cell rfl, n1.cell rfl, n1.cell rfl⟩ ?_
  rotate_left
  · (rintro w ⟨s0, s1, s2⟩; go_simp; (first | done | rfl))
  try simp only [Act.put, List.getElem_toArray, List.getElem_cons_zero, List.getElem_cons_succ, List.setIfInBounds_toArray, List.set_cons_zero, List.set_cons_succ]
  refine wpAnyH_done (by kernel_rfl) ?_ _
  refine NoPanic.normal ?_
  have x0 := n1.cell (j := 0) (u := .int .i64 kx.off) rfl
  have x1 := n1.cell (j := 1) (u := .int .i64 kx.len) rfl
  have x2 := n1.cell (j := 2) (u := .int .i64 kx.phys) rfl
  have x3 := n1.cell (j := 3) (u := .int .i64 kx.birth) rfl
  have xb := b1.cell (j := 0) (u := .pointer (some ⟨bl, 0, none⟩)) rfl
  go_wp2_with (first
    | (at_builtin
       go_must (refine wpList_app _ rfl (.tmp 55) (.tmp 61) _ rfl B 77 i0 _ 4 32 Try.underlying90 hi0 hz0 hz1 Hz.out rfl (by decide) _ m _ rfl (own_keep o1.drew ((Below.refl _ _).alloc (Nat.le_refl _) _)) _ 1 1 (ev kx) rfl (fun h => by cases h) (rd_one rfl) (by intro u hu; exact evs_one [kx] u (by simpa [evs] using hu)) (by unfold maxLen; omega) (by omega) (by simp; omega) ?_)
       intro v4 w4 hown4 hg4 hat4
       have o4 : Eo w4 B v4 (m + 1) (acc ++ [kx]) := eo_of hown4 (evs_snoc _ _).symm)
    | fail)
  have ok4 := own_keep o1.drew ((Below.refl _ _).alloc (Nat.le_refl _) (.cells #[.int .i64 kx.off, .int .i64 kx.len, .int .i64 kx.phys, .int .i64 kx.birth] 77))
  have b4 := blk_own ((blk_drw b1).alloc _) (by decide) ok4 hg4
  have n4 := blk_own ((blk_drw n1).alloc _) (by decide) ok4 hg4
  have tR4 := tree_own ok4 hg4 (tR1.drew.alloc _)
  have ha4 := (ha1.drewR.alloc _).trans (After.app hg4 hat4)
  have hs4 : g ≤ w4.heap.size := Nat.le_trans hs1 (Nat.le_trans (by simp) hg4.size)
  obtain ⟨A4, cc4, rfl, -, -, -⟩ := own_form o4
  clear x0 x1 x2 x3 xb hown4 hg4 hat4 ok4 b1 n1 tR1 ha1
  refine wp_region_noPanic ?_
  refine wp_region_held_drew (S := (fun w' => w'.cell? ⟨g, 0, none⟩ = some (.pointer (some ⟨bl, 0, none⟩)) ∧ w'.cell? ⟨bl, 0, none⟩ = some (.int .i64 kx.off) ∧ w'.cell? ⟨bl, 1, none⟩ = some (.int .i64 kx.len))) (by kernel_rfl) ⟨b4.cell rfl, n4.cell rfl, n4.cell rfl⟩ (fun _ => ?_)
  refine wpAnyH_take (i := 0) (oi := _) (v := ?_) rfl (by kernel_rfl) (by kernel_rfl) (by kernel_rfl) (fun _ _ _ h => h) (Or.inl ⟨by kernel_rfl, ?_⟩) ⟨b4.cell rfl, n4.cell rfl, n4.cell rfl⟩ ?_
  rotate_left
  · (rintro w ⟨s0, s1, s2⟩; go_simp; (first | done | rfl))
  try simp only [Act.put, List.getElem_toArray, List.getElem_cons_zero, List.getElem_cons_succ, List.setIfInBounds_toArray, List.set_cons_zero, List.set_cons_succ]
  refine wpAnyH_take (i := 1) (oi := _) (v := ?_) rfl (by kernel_rfl) (by kernel_rfl) (by kernel_rfl) (fun _ _ _ h => h) (Or.inl ⟨by kernel_rfl, ?_⟩) ⟨b4.cell rfl, n4.cell rfl, n4.cell rfl⟩ ?_
  rotate_left
  · (rintro w ⟨s0, s1, s2⟩; go_simp; (first | done | rfl))
  try simp only [Act.put, List.getElem_toArray, List.getElem_cons_zero, List.getElem_cons_succ, List.setIfInBounds_toArray, List.set_cons_zero, List.set_cons_succ]
  refine wpAnyH_take (i := 2) (oi := _) (v := ?_) rfl (by kernel_rfl) (by kernel_rfl) (by kernel_rfl) (fun _ _ _ h => h) (Or.inl ⟨by kernel_rfl, ?_⟩) ⟨b4.cell rfl, n4.cell rfl, n4.cell rfl⟩ ?_
  rotate_left
  · (rintro w ⟨s0, s1, s2⟩; go_simp; (first | done | rfl))
  try simp only [Act.put, List.getElem_toArray, List.getElem_cons_zero, List.getElem_cons_succ, List.setIfInBounds_toArray, List.set_cons_zero, List.set_cons_succ]
  refine wpAnyH_take (i := 3) (oi := _) (v := ?_) rfl (by kernel_rfl) (by kernel_rfl) (by kernel_rfl) (fun _ _ _ h => h) (Or.inl ⟨by kernel_rfl, ?_⟩) ⟨b4.cell rfl, n4.cell rfl, n4.cell rfl⟩ ?_
  rotate_left
  · (rintro w ⟨s0, s1, s2⟩; go_simp; (first | done | rfl))
  try simp only [Act.put, List.getElem_toArray, List.getElem_cons_zero, List.getElem_cons_succ, List.setIfInBounds_toArray, List.set_cons_zero, List.set_cons_succ]
  refine wpAnyH_take (i := 4) (oi := _) (v := ?_) rfl (by kernel_rfl) (by kernel_rfl) (by kernel_rfl) (fun _ _ _ h => h) (Or.inl ⟨by kernel_rfl, ?_⟩) ⟨b4.cell rfl, n4.cell rfl, n4.cell rfl⟩ ?_
  rotate_left
  · (rintro w ⟨s0, s1, s2⟩; go_simp; (first | done | rfl))
  try simp only [Act.put, List.getElem_toArray, List.getElem_cons_zero, List.getElem_cons_succ, List.setIfInBounds_toArray, List.set_cons_zero, List.set_cons_succ]
  refine wpAnyH_take (i := 5) (oi := _) (v := ?_) rfl (by kernel_rfl) (by kernel_rfl) (by kernel_rfl) (fun _ _ _ h => h) (Or.inl ⟨by kernel_rfl, ?_⟩) ⟨b4.cell rfl, n4.cell rfl, n4.cell rfl⟩ ?_
  rotate_left
  · (rintro w ⟨s0, s1, s2⟩; go_simp; (first | done | rfl))
  try simp only [Act.put, List.getElem_toArray, List.getElem_cons_zero, List.getElem_cons_succ, List.setIfInBounds_toArray, List.set_cons_zero, List.set_cons_succ]
  refine wpAnyH_take (i := 6) (oi := _) (v := ?_) rfl (by kernel_rfl) (by kernel_rfl) (by kernel_rfl) (fun _ _ _ h => h) (Or.inl ⟨by kernel_rfl, ?_⟩) ⟨b4.cell rfl, n4.cell rfl, n4.cell rfl⟩ ?_
  rotate_left
  · (rintro w ⟨s0, s1, s2⟩; go_simp; (first | done | rfl))
  try simp only [Act.put, List.getElem_toArray, List.getElem_cons_zero, List.getElem_cons_succ, List.setIfInBounds_toArray, List.set_cons_zero, List.set_cons_succ]
  refine wpAnyH_take (i := 7) (oi := _) (v := ?_) rfl (by kernel_rfl) (by kernel_rfl) (by kernel_rfl) (fun _ _ _ h => h) (Or.inl ⟨by kernel_rfl, ?_⟩) ⟨b4.cell rfl, n4.cell rfl, n4.cell rfl⟩ ?_
  rotate_left
  · (rintro w ⟨s0, s1, s2⟩; go_simp; (first | done | rfl))
  try simp only [Act.put, List.getElem_toArray, List.getElem_cons_zero, List.getElem_cons_succ, List.setIfInBounds_toArray, List.set_cons_zero, List.set_cons_succ]
  refine wpAnyH_take (i := 8) (oi := _) (v := ?_) rfl (by kernel_rfl) (by kernel_rfl) (by kernel_rfl) (fun _ _ _ h => h) (Or.inl ⟨by kernel_rfl, ?_⟩) ⟨b4.cell rfl, n4.cell rfl, n4.cell rfl⟩ ?_
  rotate_left
  · (rintro w ⟨s0, s1, s2⟩; go_simp; (first | done | rfl))
  try simp only [Act.put, List.getElem_toArray, List.getElem_cons_zero, List.getElem_cons_succ, List.setIfInBounds_toArray, List.set_cons_zero, List.set_cons_succ]
  refine wpAnyH_take (i := 9) (oi := _) (v := ?_) rfl (by kernel_rfl) (by kernel_rfl) (by kernel_rfl) (fun _ _ _ h => h) (Or.inl ⟨by kernel_rfl, ?_⟩) ⟨b4.cell rfl, n4.cell rfl, n4.cell rfl⟩ ?_
  rotate_left
  · (rintro w ⟨s0, s1, s2⟩; go_simp; (first | done | rfl))
  try simp only [Act.put, List.getElem_toArray, List.getElem_cons_zero, List.getElem_cons_succ, List.setIfInBounds_toArray, List.set_cons_zero, List.set_cons_succ]
  refine wpAnyH_take (i := 10) (oi := _) (v := ?_) rfl (by kernel_rfl) (by kernel_rfl) (by kernel_rfl) (fun _ _ _ h => h) (Or.inl ⟨by kernel_rfl, ?_⟩) ⟨b4.cell rfl, n4.cell rfl, n4.cell rfl⟩ ?_
  rotate_left
  · (rintro w ⟨s0, s1, s2⟩; go_simp; (first | done | rfl))
  try simp only [Act.put, List.getElem_toArray, List.getElem_cons_zero, List.getElem_cons_succ, List.setIfInBounds_toArray, List.set_cons_zero, List.set_cons_succ]
  refine wpAnyH_take (i := 11) (oi := _) (v := ?_) rfl (by kernel_rfl) (by kernel_rfl) (by kernel_rfl) (fun _ _ _ h => h) (Or.inl ⟨by kernel_rfl, ?_⟩) ⟨b4.cell rfl, n4.cell rfl, n4.cell rfl⟩ ?_
  rotate_left
  · (rintro w ⟨s0, s1, s2⟩; go_simp; (first | done | rfl))
  try simp only [Act.put, List.getElem_toArray, List.getElem_cons_zero, List.getElem_cons_succ, List.setIfInBounds_toArray, List.set_cons_zero, List.set_cons_succ]
  refine wpAnyH_take (i := 12) (oi := _) (v := ?_) rfl (by kernel_rfl) (by kernel_rfl) (by kernel_rfl) (fun _ _ _ h => h) (Or.inl ⟨by kernel_rfl, ?_⟩) ⟨b4.cell rfl, n4.cell rfl, n4.cell rfl⟩ ?_
  rotate_left
  · (rintro w ⟨s0, s1, s2⟩; go_simp; (first | done | rfl))
  try simp only [Act.put, List.getElem_toArray, List.getElem_cons_zero, List.getElem_cons_succ, List.setIfInBounds_toArray, List.set_cons_zero, List.set_cons_succ]
  refine wpAnyH_take (i := 13) (oi := _) (v := ?_) rfl (by kernel_rfl) (by kernel_rfl) (by kernel_rfl) (fun _ _ _ h => h) (Or.inl ⟨by kernel_rfl, ?_⟩) ⟨b4.cell rfl, n4.cell rfl, n4.cell rfl⟩ ?_
  rotate_left
  · (rintro w ⟨s0, s1, s2⟩; go_simp; (first | done | rfl))
  try simp only [Act.put, List.getElem_toArray, List.getElem_cons_zero, List.getElem_cons_succ, List.setIfInBounds_toArray, List.set_cons_zero, List.set_cons_succ]
  refine wpAnyH_take (i := 14) (oi := _) (v := ?_) rfl (by kernel_rfl) (by kernel_rfl) (by kernel_rfl) (fun _ _ _ h => h) (Or.inl ⟨by kernel_rfl, ?_⟩) ⟨b4.cell rfl, n4.cell rfl, n4.cell rfl⟩ ?_
  rotate_left
  · (rintro w ⟨s0, s1, s2⟩; go_simp; (first | done | rfl))
  try simp only [Act.put, List.getElem_toArray, List.getElem_cons_zero, List.getElem_cons_succ, List.setIfInBounds_toArray, List.set_cons_zero, List.set_cons_succ]
  refine wpAnyH_done (by kernel_rfl) ?_ _
  refine NoPanic.normal ?_
  go_wp2
  go_ret
  exact ⟨_, _, rfl, o4, ha4.drewR⟩
set_option maxRecDepth 100000 in
set_option maxHeartbeats 4000000 in
theorem near_p5 (nw : Bool) (L R : Tr) (kx : Ext) (b e : Int) (fb : I64 b) (fe : I64 e) (hx : kx.may = true) (c1 : ¬ b ≤ kx.off) (hna : ¬ b ≤ kx.off + kx.len) (c3 : kx.off + kx.len ≤ e) (hlL : (nearT L b e).length ≤ L.size) (ihL : Nears S L b e) (ihR : Nears S R b e) (a : Option Addr) (w : World) (B : Nat) (v : Value) (m : Nat) (acc : List Ext) (h : Tree w S a (.node nw L kx R)) (ho : Eo w B v m acc) (hB : B ≤ w.heap.size) (hs : m + (Tr.node nw L kx R).size ≤ 100000) :
    Calls Try.prog 59 #[.agg #[.pointer a], v, .int .i64 b, .int .i64 e] w fun en w' => ∃ v' m', en = .returned v' ∧ Eo w' B v' m' (acc ++ nearT R b e) ∧ After w v w' v' := by
  have hda : decide (b ≤ kx.off + kx.len) = false := decide_eq_false hna
  obtain ⟨i0, hi0, hz0, hz1, hz2⟩ := ext_info
  have Hz := Lib.hid hz2
  clear hz2
  have hxl := may_len hx
  have hsz : m + L.size + R.size + 1 ≤ 100000 := by simp only [Tr.size] at hs; omega
  obtain ⟨bl, aL, aR, rfl, hbl, fkx, -, hL, hR⟩ := h
  unfold I64 at fb fe
  have hwx : IntKind.i64.wrap (kx.off + kx.len) = kx.off + kx.len := by rw [IntKind.wrap_i64]; omega
  obtain ⟨A, c, rfl, -, -, -⟩ := own_form ho
  obtain ⟨w1, hw1⟩ : ∃ w1, w1 = w.alloc (.cells #[.pointer (some ⟨bl, 0, none⟩)] 103) := ⟨_, rfl⟩
  have b1 : Blk w1 w.heap.size 103 #[.pointer (some ⟨bl, 0, none⟩)] := by rw [hw1]; exact Blk.new _ _ _ rfl
  have hB1 : Below w.heap.size w w1 := by rw [hw1]; exact (Below.refl _ _).alloc (Nat.le_refl _) _
  have ha1 : After w (.slice A m c) w1 (.slice A m c) := by rw [hw1]; exact (After.refl _ _).alloc _
  have n1 := hbl.keep hB1
  have tL1 := hL.below hB1
  have tR1 := hR.below hB1
  have o1 := own_keep ho hB1
  have e0 := b1.cell (j := 0) (u := .pointer (some ⟨bl, 0, none⟩)) rfl
  have e1 := n1.cell (j := 0) (u := .int .i64 kx.off) rfl
  have e4 := n1.cell (j := 4) (u := .pointer aL) rfl
  have Hm1 := Lib.hid (eo_len o1)
  have hs1 := hB1.size
  clear hbl hL hR ho hs hB1
  rw [hw1] at e0 e1 e4
  go_enter Try.func59, Try.ntmps59
  go_wp2_with fail
  rw [← hw1]
  clear hw1 e0 e1 e4
  generalize hg : w.heap.size = g at *
  have hM1 : m + R.size + 1 ≤ 100000 := by omega
  refine wp_region_noPanic ?_
  refine wp_region_held_drew (S := (fun w' => w'.cell? ⟨g, 0, none⟩ = some (.pointer (some ⟨bl, 0, none⟩)) ∧ w'.cell? ⟨bl, 0, none⟩ = some (.int .i64 kx.off) ∧ w'.cell? ⟨bl, 1, none⟩ = some (.int .i64 kx.len))) (by kernel_rfl) ⟨b1.cell rfl, n1.cell rfl, n1.cell rfl⟩ (fun _ => ?_)
  refine wpAnyH_take (i := 0) (oi := _) (v := ?_) rfl (by kernel_rfl) (by kernel_rfl) (by kernel_rfl) (fun _ _ _ h => h) (Or.inl ⟨by kernel_rfl, ?_⟩) ⟨b1.cell rfl, n1.cell rfl, n1.cell rfl⟩ ?_
  rotate_left
  · (rintro w ⟨s0, s1, s2⟩; go_simp; (first | done | rfl))
  try simp only [Act.put, List.getElem_toArray, List.getElem_cons_zero, List.getElem_cons_succ, List.setIfInBounds_toArray, List.set_cons_zero, List.set_cons_succ]
  refine wpAnyH_take (i := 1) (oi := _) (v := ?_) rfl (by kernel_rfl) (by kernel_rfl) (by kernel_rfl) (fun _ _ _ h => h) (Or.inl ⟨by kernel_rfl, ?_⟩) ⟨b1.cell rfl, n1.cell rfl, n1.cell rfl⟩ ?_
  rotate_left
  · (rintro w ⟨s0, s1, s2⟩; go_simp; (first | done | rfl))
  try simp only [Act.put, List.getElem_toArray, List.getElem_cons_zero, List.getElem_cons_succ, List.setIfInBounds_toArray, List.set_cons_zero, List.set_cons_succ]
  refine wpAnyH_take (i := 2) (oi := _) (v := ?_) rfl (by kernel_rfl) (by kernel_rfl) (by kernel_rfl) (fun _ _ _ h => h) (Or.inl ⟨by kernel_rfl, ?_⟩) ⟨b1.cell rfl, n1.cell rfl, n1.cell rfl⟩ ?_
  rotate_left
  · (rintro w ⟨s0, s1, s2⟩; go_simp; (first | done | rfl))
  try simp only [Act.put, List.getElem_toArray, List.getElem_cons_zero, List.getElem_cons_succ, List.setIfInBounds_toArray, List.set_cons_zero, List.set_cons_succ]
  refine wpAnyH_take (i := 3) (oi := _) (v := ?_) rfl (by kernel_rfl) (by kernel_rfl) (by kernel_rfl) (fun _ _ _ h => h) (Or.inl ⟨by kernel_rfl, ?_⟩) ⟨b1.cell rfl, n1.cell rfl, n1.cell rfl⟩ ?_
  rotate_left
  · (rintro w ⟨s0, s1, s2⟩; go_simp; (first | done | rfl))
  try simp only [Act.put, List.getElem_toArray, List.getElem_cons_zero, List.getElem_cons_succ, List.setIfInBounds_toArray, List.set_cons_zero, List.set_cons_succ]
  refine wpAnyH_take (i := 4) (oi := _) (v := ?_) rfl (by kernel_rfl) (by kernel_rfl) (by kernel_rfl) (fun _ _ _ h => h) (Or.inl ⟨by kernel_rfl, ?_⟩) ⟨b1.cell rfl, n1.cell rfl, n1.cell rfl⟩ ?_
  rotate_left
  · (rintro w ⟨s0, s1, s2⟩; go_simp; (first | done | rfl))
  try simp only [Act.put, List.getElem_toArray, List.getElem_cons_zero, List.getElem_cons_succ, List.setIfInBounds_toArray, List.set_cons_zero, List.set_cons_succ]
  refine wpAnyH_take (i := 5) (oi := _) (v := ?_) rfl (by kernel_rfl) (by kernel_rfl) (by kernel_rfl) (fun _ _ _ h => h) (Or.inl ⟨by kernel_rfl, ?_⟩) ⟨b1.cell rfl, n1.cell rfl, n1.cell rfl⟩ ?_
  rotate_left
  · (rintro w ⟨s0, s1, s2⟩; go_simp; (first | done | rfl))
  try simp only [Act.put, List.getElem_toArray, List.getElem_cons_zero, List.getElem_cons_succ, List.setIfInBounds_toArray, List.set_cons_zero, List.set_cons_succ]
  refine wpAnyH_take (i := 6) (oi := _) (v := ?_) rfl (by kernel_rfl) (by kernel_rfl) (by kernel_rfl) (fun _ _ _ h => h) (Or.inl ⟨by kernel_rfl, ?_⟩) ⟨b1.cell rfl, n1.cell rfl, n1.cell rfl⟩ ?_
  rotate_left
  · (rintro w ⟨s0, s1, s2⟩; go_simp; (first | done | rfl))
  try simp only [Act.put, List.getElem_toArray, List.getElem_cons_zero, List.getElem_cons_succ, List.setIfInBounds_toArray, List.set_cons_zero, List.set_cons_succ]
  refine wpAnyH_take (i := 7) (oi := _) (v := ?_) rfl (by kernel_rfl) (by kernel_rfl) (by kernel_rfl) (fun _ _ _ h => h) (Or.inl ⟨by kernel_rfl, ?_⟩) ⟨b1.cell rfl, n1.cell rfl, n1.cell rfl⟩ ?_
  rotate_left
  · (rintro w ⟨s0, s1, s2⟩; go_simp; (first | done | rfl))
  try simp only [Act.put, List.getElem_toArray, List.getElem_cons_zero, List.getElem_cons_succ, List.setIfInBounds_toArray, List.set_cons_zero, List.set_cons_succ]
  refine wpAnyH_take (i := 8) (oi := _) (v := ?_) rfl (by kernel_rfl) (by kernel_rfl) (by kernel_rfl) (fun _ _ _ h => h) (Or.inl ⟨by kernel_rfl, ?_⟩) ⟨b1.cell rfl, n1.cell rfl, n1.cell rfl⟩ ?_
  rotate_left
  · (rintro w ⟨s0, s1, s2⟩; go_simp; (first | done | rfl))
  try simp only [Act.put, List.getElem_toArray, List.getElem_cons_zero, List.getElem_cons_succ, List.setIfInBounds_toArray, List.set_cons_zero, List.set_cons_succ]
  refine wpAnyH_take (i := 9) (oi := _) (v := ?_) rfl (by kernel_rfl) (by kernel_rfl) (by kernel_rfl) (fun _ _ _ h => h) (Or.inl ⟨by kernel_rfl, ?_⟩) ⟨b1.cell rfl, n1.cell rfl, n1.cell rfl⟩ ?_
  rotate_left
  · (rintro w ⟨s0, s1, s2⟩; go_simp; (first | done | rfl))
  try simp only [Act.put, List.getElem_toArray, List.getElem_cons_zero, List.getElem_cons_succ, List.setIfInBounds_toArray, List.set_cons_zero, List.set_cons_succ]
  refine wpAnyH_take (i := 10) (oi := _) (v := ?_) rfl (by kernel_rfl) (by kernel_rfl) (by kernel_rfl) (fun _ _ _ h => h) (Or.inl ⟨by kernel_rfl, ?_⟩) ⟨b1.cell rfl, n1.cell rfl, n1.cell rfl⟩ ?_
  rotate_left
  · (rintro w ⟨s0, s1, s2⟩; go_simp; (first | done | rfl))
  try simp only [Act.put, List.getElem_toArray, List.getElem_cons_zero, List.getElem_cons_succ, List.setIfInBounds_toArray, List.set_cons_zero, List.set_cons_succ]
  refine wpAnyH_take (i := 11) (oi := _) (v := ?_) rfl (by kernel_rfl) (by kernel_rfl) (by kernel_rfl) (fun _ _ _ h => h) (Or.inl ⟨by kernel_rfl, ?_⟩) ⟨b1.cell rfl, n1.cell rfl, n1.cell rfl⟩ ?_
  rotate_left
  · (rintro w ⟨s0, s1, s2⟩; go_simp; (first | done | rfl))
  try simp only [Act.put, List.getElem_toArray, List.getElem_cons_zero, List.getElem_cons_succ, List.setIfInBounds_toArray, List.set_cons_zero, List.set_cons_succ]
  refine wpAnyH_take (i := 12) (oi := _) (v := ?_) rfl (by kernel_rfl) (by kernel_rfl) (by kernel_rfl) (fun _ _ _ h => h) (Or.inl ⟨by kernel_rfl, ?_⟩) ⟨b1.cell rfl, n1.cell rfl, n1.cell rfl⟩ ?_
  rotate_left
  · (rintro w ⟨s0, s1, s2⟩; go_simp; (first | done | rfl))
  try simp only [Act.put, List.getElem_toArray, List.getElem_cons_zero, List.getElem_cons_succ, List.setIfInBounds_toArray, List.set_cons_zero, List.set_cons_succ]
  refine wpAnyH_take (i := 13) (oi := _) (v := ?_) rfl (by kernel_rfl) (by kernel_rfl) (by kernel_rfl) (fun _ _ _ h => h) (Or.inl ⟨by kernel_rfl, ?_⟩) ⟨b1.cell rfl, n1.cell rfl, n1.cell rfl⟩ ?_
  rotate_left
  · (rintro w ⟨s0, s1, s2⟩; go_simp; (first | done | rfl))
  try simp only [Act.put, List.getElem_toArray, List.getElem_cons_zero, List.getElem_cons_succ, List.setIfInBounds_toArray, List.set_cons_zero, List.set_cons_succ]
  refine wpAnyH_take (i := 14) (oi := _) (v := ?_) rfl (by kernel_rfl) (by kernel_rfl) (by kernel_rfl) (fun _ _ _ h => h) (Or.inl ⟨by kernel_rfl, ?_⟩) ⟨b1.cell rfl, n1.cell rfl, n1.cell rfl⟩ ?_
  rotate_left
  · (rintro w ⟨s0, s1, s2⟩; go_simp; (first | done | rfl))
  try simp only [Act.put, List.getElem_toArray, List.getElem_cons_zero, List.getElem_cons_succ, List.setIfInBounds_toArray, List.set_cons_zero, List.set_cons_succ]
  refine wpAnyH_take (i := 15) (oi := _) (v := ?_) rfl (by kernel_rfl) (by kernel_rfl) (by kernel_rfl) (fun _ _ _ h => h) (Or.inl ⟨by kernel_rfl, ?_⟩) ⟨b1.cell rfl, n1.cell rfl, n1.cell rfl⟩ ?_
  rotate_left
  · (rintro w ⟨s0, s1, s2⟩; go_simp; (first | done | rfl))
  try simp only [Act.put, List.getElem_toArray, List.getElem_cons_zero, List.getElem_cons_succ, List.setIfInBounds_toArray, List.set_cons_zero, List.set_cons_succ]
  refine wpAnyH_take (i := 16) (oi := _) (v := undef) rfl (by kernel_rfl) (by kernel_rfl) (by kernel_rfl) (fun _ _ _ h => h) (Or.inr ⟨by kernel_rfl, rfl⟩) ⟨b1.cell rfl, n1.cell rfl, n1.cell rfl⟩ ?_
  try simp only [Act.put, List.getElem_toArray, List.getElem_cons_zero, List.getElem_cons_succ, List.setIfInBounds_toArray, List.set_cons_zero, List.set_cons_succ]
  refine wpAnyH_take (i := 17) (oi := _) (v := undef) rfl (by kernel_rfl) (by kernel_rfl) (by kernel_rfl) (fun _ _ _ h => h) (Or.inr ⟨by kernel_rfl, rfl⟩) ⟨b1.cell rfl, n1.cell rfl, n1.cell rfl⟩ ?_
  try simp only [Act.put, List.getElem_toArray, List.getElem_cons_zero, List.getElem_cons_succ, List.setIfInBounds_toArray, List.set_cons_zero, List.set_cons_succ]
  refine wpAnyH_take (i := 18) (oi := _) (v := undef) rfl (by kernel_rfl) (by kernel_rfl) (by kernel_rfl) (fun _ _ _ h => h) (Or.inr ⟨by kernel_rfl, rfl⟩) ⟨b1.cell rfl, n1.cell rfl, n1.cell rfl⟩ ?_
  try simp only [Act.put, List.getElem_toArray, List.getElem_cons_zero, List.getElem_cons_succ, List.setIfInBounds_toArray, List.set_cons_zero, List.set_cons_succ]
  refine wpAnyH_take (i := 19) (oi := _) (v := undef) rfl (by kernel_rfl) (by kernel_rfl) (by kernel_rfl) (fun _ _ _ h => h) (Or.inr ⟨by kernel_rfl, rfl⟩) ⟨b1.cell rfl, n1.cell rfl, n1.cell rfl⟩ ?_
  try simp only [Act.put, List.getElem_toArray, List.getElem_cons_zero, List.getElem_cons_succ, List.setIfInBounds_toArray, List.set_cons_zero, List.set_cons_succ]
  refine wpAnyH_take (i := 20) (oi := _) (v := undef) rfl (by kernel_rfl) (by kernel_rfl) (by kernel_rfl) (fun _ _ _ h => h) (Or.inr ⟨by kernel_rfl, rfl⟩) ⟨b1.cell rfl, n1.cell rfl, n1.cell rfl⟩ ?_
  try simp only [Act.put, List.getElem_toArray, List.getElem_cons_zero, List.getElem_cons_succ, List.setIfInBounds_toArray, List.set_cons_zero, List.set_cons_succ]
  refine wpAnyH_take (i := 21) (oi := _) (v := undef) rfl (by kernel_rfl) (by kernel_rfl) (by kernel_rfl) (fun _ _ _ h => h) (Or.inr ⟨by kernel_rfl, rfl⟩) ⟨b1.cell rfl, n1.cell rfl, n1.cell rfl⟩ ?_
  try simp only [Act.put, List.getElem_toArray, List.getElem_cons_zero, List.getElem_cons_succ, List.setIfInBounds_toArray, List.set_cons_zero, List.set_cons_succ]
  refine wpAnyH_take (i := 22) (oi := _) (v := undef) rfl (by kernel_rfl) (by kernel_rfl) (by kernel_rfl) (fun _ _ _ h => h) (Or.inr ⟨by kernel_rfl, rfl⟩) ⟨b1.cell rfl, n1.cell rfl, n1.cell rfl⟩ ?_
  try simp only [Act.put, List.getElem_toArray, List.getElem_cons_zero, List.getElem_cons_succ, List.setIfInBounds_toArray, List.set_cons_zero, List.set_cons_succ]
  refine wpAnyH_take (i := 23) (oi := _) (v := undef) rfl (by kernel_rfl) (by kernel_rfl) (by kernel_rfl) (fun _ _ _ h => h) (Or.inr ⟨by kernel_rfl, rfl⟩) ⟨b1.cell rfl, n1.cell rfl, n1.cell rfl⟩ ?_
  try simp only [Act.put, List.getElem_toArray, List.getElem_cons_zero, List.getElem_cons_succ, List.setIfInBounds_toArray, List.set_cons_zero, List.set_cons_succ]
  refine wpAnyH_take (i := 24) (oi := _) (v := ?_) rfl (by kernel_rfl) (by kernel_rfl) (by kernel_rfl) (fun _ _ _ h => h) (Or.inl ⟨by kernel_rfl, ?_⟩) ⟨b1.cell rfl, n1.cell rfl, n1.cell rfl⟩ ?_
  rotate_left
  · (rintro w ⟨s0, s1, s2⟩; go_simp; (first | done | rfl))
  try simp only [Act.put, List.getElem_toArray, List.getElem_cons_zero, List.getElem_cons_succ, List.setIfInBounds_toArray, List.set_cons_zero, List.set_cons_succ]
  refine wpAnyH_done (by kernel_rfl) ?_ _
  refine NoPanic.normal ?_
  go_wp2_with fail
  refine wp_region_noPanic ?_
  refine wp_region_held_drew (S := (fun w' => w'.cell? ⟨g, 0, none⟩ = some (.pointer (some ⟨bl, 0, none⟩)) ∧ w'.cell? ⟨bl, 0, none⟩ = some (.int .i64 kx.off) ∧ w'.cell? ⟨bl, 1, none⟩ = some (.int .i64 kx.len))) (by kernel_rfl) ⟨b1.cell rfl, n1.cell rfl, n1.cell rfl⟩ (fun _ => ?_)
  refine wpAnyH_take (i := 0) (oi := _) (v := ?_) rfl (by kernel_rfl) (by kernel_rfl) (by kernel_rfl) (fun _ _ _ h => h) (Or.inl ⟨by kernel_rfl, ?_⟩) ⟨b1.cell rfl, n1.cell rfl, n1.cell rfl⟩ ?_
  rotate_left
  · (rintro w ⟨s0, s1, s2⟩; go_simp; (first | done | rfl))
  try simp only [Act.put, List.getElem_toArray, List.getElem_cons_zero, List.getElem_cons_succ, List.setIfInBounds_toArray, List.set_cons_zero, List.set_cons_succ]
  refine wpAnyH_take (i := 1) (oi := _) (v := ?_) rfl (by kernel_rfl) (by kernel_rfl) (by kernel_rfl) (fun _ _ _ h => h) (Or.inl ⟨by kernel_rfl, ?_⟩) ⟨b1.cell rfl, n1.cell rfl, n1.cell rfl⟩ ?_
  rotate_left
  · (rintro w ⟨s0, s1, s2⟩; go_simp; (first | done | rfl))
  try simp only [Act.put, List.getElem_toArray, List.getElem_cons_zero, List.getElem_cons_succ, List.setIfInBounds_toArray, List.set_cons_zero, List.set_cons_succ]
  refine wpAnyH_take (i := 2) (oi := _) (v := ?_) rfl (by kernel_rfl) (by kernel_rfl) (by kernel_rfl) (fun _ _ _ h => h) (Or.inl ⟨by kernel_rfl, ?_⟩) ⟨b1.cell rfl, n1.cell rfl, n1.cell rfl⟩ ?_
  rotate_left
  · (rintro w ⟨s0, s1, s2⟩; go_simp; (first | done | rfl))
  try simp only [Act.put, List.getElem_toArray, List.getElem_cons_zero, List.getElem_cons_succ, List.setIfInBounds_toArray, List.set_cons_zero, List.set_cons_succ]
  refine wpAnyH_take (i := 3) (oi := _) (v := ?_) rfl (by kernel_rfl) (by kernel_rfl) (by kernel_rfl) (fun _ _ _ h => h) (Or.inl ⟨by kernel_rfl, ?_⟩) ⟨b1.cell rfl, n1.cell rfl, n1.cell rfl⟩ ?_
  rotate_left
  · (rintro w ⟨s0, s1, s2⟩; go_simp; (first | done | rfl))
  try simp only [Act.put, List.getElem_toArray, List.getElem_cons_zero, List.getElem_cons_succ, List.setIfInBounds_toArray, List.set_cons_zero, List.set_cons_succ]
  refine wpAnyH_take (i := 4) (oi := _) (v := ?_) rfl (by kernel_rfl) (by kernel_rfl) (by kernel_rfl) (fun _ _ _ h => h) (Or.inl ⟨by kernel_rfl, ?_⟩) ⟨b1.cell rfl, n1.cell rfl, n1.cell rfl⟩ ?_
  rotate_left
  · (rintro w ⟨s0, s1, s2⟩; go_simp; (first | done | rfl))
  try simp only [Act.put, List.getElem_toArray, List.getElem_cons_zero, List.getElem_cons_succ, List.setIfInBounds_toArray, List.set_cons_zero, List.set_cons_succ]
  refine wpAnyH_take (i := 5) (oi := _) (v := ?_) rfl (by kernel_rfl) (by kernel_rfl) (by kernel_rfl) (fun _ _ _ h => h) (Or.inl ⟨by kernel_rfl, ?_⟩) ⟨b1.cell rfl, n1.cell rfl, n1.cell rfl⟩ ?_
  rotate_left
  · (rintro w ⟨s0, s1, s2⟩; go_simp; (first | done | rfl))
  try simp only [Act.put, List.getElem_toArray, List.getElem_cons_zero, List.getElem_cons_succ, List.setIfInBounds_toArray, List.set_cons_zero, List.set_cons_succ]
  refine wpAnyH_take (i := 6) (oi := _) (v := ?_) rfl (by kernel_rfl) (by kernel_rfl) (by kernel_rfl) (fun _ _ _ h => h) (Or.inl ⟨by kernel_rfl, ?_⟩) ⟨b1.cell rfl, n1.cell rfl, n1.cell rfl⟩ ?_
  rotate_left
  · (rintro w ⟨s0, s1, s2⟩; go_simp; (first | done | rfl))
  try simp only [Act.put, List.getElem_toArray, List.getElem_cons_zero, List.getElem_cons_succ, List.setIfInBounds_toArray, List.set_cons_zero, List.set_cons_succ]
  refine wpAnyH_take (i := 7) (oi := _) (v := ?_) rfl (by kernel_rfl) (by kernel_rfl) (by kernel_rfl) (fun _ _ _ h => h) (Or.inl ⟨by kernel_rfl, ?_⟩) ⟨b1.cell rfl, n1.cell rfl, n1.cell rfl⟩ ?_
  rotate_left
  · (rintro w ⟨s0, s1, s2⟩; go_simp; (first | done | rfl))
  try simp only [Act.put, List.getElem_toArray, List.getElem_cons_zero, List.getElem_cons_succ, List.setIfInBounds_toArray, List.set_cons_zero, List.set_cons_succ]
  refine wpAnyH_take (i := 8) (oi := _) (v := ?_) rfl (by kernel_rfl) (by kernel_rfl) (by kernel_rfl) (fun _ _ _ h => h) (Or.inl ⟨by kernel_rfl, ?_⟩) ⟨b1.cell rfl, n1.cell rfl, n1.cell rfl⟩ ?_
  rotate_left
  · (rintro w ⟨s0, s1, s2⟩; go_simp; (first | done | rfl))
  try simp only [Act.put, List.getElem_toArray, List.getElem_cons_zero, List.getElem_cons_succ, List.setIfInBounds_toArray, List.set_cons_zero, List.set_cons_succ]
  refine wpAnyH_take (i := 9) (oi := _) (v := ?_) rfl (by kernel_rfl) (by kernel_rfl) (by kernel_rfl) (fun _ _ _ h => h) (Or.inl ⟨by kernel_rfl, ?_⟩) ⟨b1.cell rfl, n1.cell rfl, n1.cell rfl⟩ ?_
  rotate_left
  · (rintro w ⟨s0, s1, s2⟩; go_simp; (first | done | rfl))
  try simp only [Act.put, List.getElem_toArray, List.getElem_cons_zero, List.getElem_cons_succ, List.setIfInBounds_toArray, List.set_cons_zero, List.set_cons_succ]
  refine wpAnyH_take (i := 10) (oi := _) (v := ?_) rfl (by kernel_rfl) (by kernel_rfl) (by kernel_rfl) (fun _ _ _ h => h) (Or.inl ⟨by kernel_rfl, ?_⟩) ⟨b1.cell rfl, n1.cell rfl, n1.cell rfl⟩ ?_
  rotate_left
  · (rintro w ⟨s0, s1, s2⟩; go_simp; (first | done | rfl))
  try simp only [Act.put, List.getElem_toArray, List.getElem_cons_zero, List.getElem_cons_succ, List.setIfInBounds_toArray, List.set_cons_zero, List.set_cons_succ]
  refine wpAnyH_take (i := 11) (oi := _) (v := ?_) rfl (by kernel_rfl) (by kernel_rfl) (by kernel_rfl) (fun _ _ _ h => h) (Or.inl ⟨by kernel_rfl, ?_⟩) ⟨b1.cell rfl, n1.cell rfl, n1.cell rfl⟩ ?_
  rotate_left
  · (rintro w ⟨s0, s1, s2⟩; go_simp; (first | done | rfl))
  try simp only [Act.put, List.getElem_toArray, List.getElem_cons_zero, List.getElem_cons_succ, List.setIfInBounds_toArray, List.set_cons_zero, List.set_cons_succ]
  refine wpAnyH_take (i := 12) (oi := _) (v := ?_) rfl (by kernel_rfl) (by kernel_rfl) (by kernel_rfl) (fun _ _ _ h => h) (Or.inl ⟨by kernel_rfl, ?_⟩) ⟨b1.cell rfl, n1.cell rfl, n1.cell rfl⟩ ?_
  rotate_left
  · (rintro w ⟨s0, s1, s2⟩; go_simp; (first | done | rfl))
  try simp only [Act.put, List.getElem_toArray, List.getElem_cons_zero, List.getElem_cons_succ, List.setIfInBounds_toArray, List.set_cons_zero, List.set_cons_succ]
  refine wpAnyH_take (i := 13) (oi := _) (v := ?_) rfl (by kernel_rfl) (by kernel_rfl) (by kernel_rfl) (fun _ _ _ h => h) (Or.inl ⟨by kernel_rfl, ?_⟩) ⟨b1.cell rfl, n1.cell rfl, n1.cell rfl⟩ ?_
  rotate_left
  · (rintro w ⟨s0, s1, s2⟩; go_simp; (first | done | rfl))
  try simp only [Act.put, List.getElem_toArray, List.getElem_cons_zero, List.getElem_cons_succ, List.setIfInBounds_toArray, List.set_cons_zero, List.set_cons_succ]
  refine wpAnyH_take (i := 14) (oi := _) (v := ?_) rfl (by kernel_rfl) (by kernel_rfl) (by kernel_rfl) (fun _ _ _ h => h) (Or.inl ⟨by kernel_rfl, ?_⟩) ⟨b1.cell rfl, n1.cell rfl, n1.cell rfl⟩ ?_
  rotate_left
  · (rintro w ⟨s0, s1, s2⟩; go_simp; (first | done | rfl))
  try simp only [Act.put, List.getElem_toArray, List.getElem_cons_zero, List.getElem_cons_succ, List.setIfInBounds_toArray, List.set_cons_zero, List.set_cons_succ]
  refine wpAnyH_done (by kernel_rfl) ?_ _
  refine NoPanic.normal ?_
  have y0 := b1.cell (j := 0) (u := .pointer (some ⟨bl, 0, none⟩)) rfl
  have y5 := n1.cell (j := 5) (u := .pointer aR) rfl
  go_wp2_with fail
  refine (ihR aR w1.drew.drew B (.slice A m c) m acc tR1.drew.drew o1.drew.drew (Nat.le_trans hB hs1) (by omega)).mono ?_
  rintro en w6 ⟨v6, m6, rfl, o6, ha6⟩
  obtain ⟨A6, cc6, rfl, -, -, -⟩ := own_form o6
  go_wp2
  go_ret
  exact ⟨_, _, rfl, o6, ha1.drewR.drewR.trans ha6⟩
set_option maxRecDepth 100000 in
set_option maxHeartbeats 4000000 in
theorem near_p6 (nw : Bool) (L R : Tr) (kx : Ext) (b e : Int) (fb : I64 b) (fe : I64 e) (hx : kx.may = true) (c1 : ¬ b ≤ kx.off) (hna : ¬ b ≤ kx.off + kx.len) (c3 : ¬ kx.off + kx.len ≤ e) (hlL : (nearT L b e).length ≤ L.size) (ihL : Nears S L b e) (ihR : Nears S R b e) (a : Option Addr) (w : World) (B : Nat) (v : Value) (m : Nat) (acc : List Ext) (h : Tree w S a (.node nw L kx R)) (ho : Eo w B v m acc) (hB : B ≤ w.heap.size) (hs : m + (Tr.node nw L kx R).size ≤ 100000) :
    Calls Try.prog 59 #[.agg #[.pointer a], v, .int .i64 b, .int .i64 e] w fun en w' => ∃ v' m', en = .returned v' ∧ Eo w' B v' m' acc ∧ After w v w' v' := by
  have hda : decide (b ≤ kx.off + kx.len) = false := decide_eq_false hna
  have hdc : decide (kx.off + kx.len ≤ e) = false := decide_eq_false c3
  obtain ⟨i0, hi0, hz0, hz1, hz2⟩ := ext_info
  have Hz := Lib.hid hz2
  clear hz2
  have hxl := may_len hx
  have hsz : m + L.size + R.size + 1 ≤ 100000 := by simp only [Tr.size] at hs; omega
  obtain ⟨bl, aL, aR, rfl, hbl, fkx, -, hL, hR⟩ := h
  unfold I64 at fb fe
  have hwx : IntKind.i64.wrap (kx.off + kx.len) = kx.off + kx.len := by rw [IntKind.wrap_i64]; omega
  obtain ⟨A, c, rfl, -, -, -⟩ := own_form ho
  obtain ⟨w1, hw1⟩ : ∃ w1, w1 = w.alloc (.cells #[.pointer (some ⟨bl, 0, none⟩)] 103) := ⟨_, rfl⟩
  have b1 : Blk w1 w.heap.size 103 #[.pointer (some ⟨bl, 0, none⟩)] := by rw [hw1]; exact Blk.new _ _ _ rfl
  have hB1 : Below w.heap.size w w1 := by rw [hw1]; exact (Below.refl _ _).alloc (Nat.le_refl _) _
  have ha1 : After w (.slice A m c) w1 (.slice A m c) := by rw [hw1]; exact (After.refl _ _).alloc _
  have n1 := hbl.keep hB1
  have tL1 := hL.below hB1
  have tR1 := hR.below hB1
  have o1 := own_keep ho hB1
  have e0 := b1.cell (j := 0) (u := .pointer (some ⟨bl, 0, none⟩)) rfl
  have e1 := n1.cell (j := 0) (u := .int .i64 kx.off) rfl
  have e4 := n1.cell (j := 4) (u := .pointer aL) rfl
  have Hm1 := Lib.hid (eo_len o1)
  have hs1 := hB1.size
  clear hbl hL hR ho hs hB1
  rw [hw1] at e0 e1 e4
  go_enter Try.func59, Try.ntmps59
  go_wp2_with fail
  rw [← hw1]
  clear hw1 e0 e1 e4
  generalize hg : w.heap.size = g at *
  have hM1 : m + R.size + 1 ≤ 100000 := by omega
  refine wp_region_noPanic ?_
  refine wp_region_held_drew (S := (fun w' => w'.cell? ⟨g, 0, none⟩ = some (.pointer (some ⟨bl, 0, none⟩)) ∧ w'.cell? ⟨bl, 0, none⟩ = some (.int .i64 kx.off) ∧ w'.cell? ⟨bl, 1, none⟩ = some (.int .i64 kx.len))) (by kernel_rfl) ⟨b1.cell rfl, n1.cell rfl, n1.cell rfl⟩ (fun _ => ?_)
  refine wpAnyH_take (i := 0) (oi := _) (v := ?_) rfl (by kernel_rfl) (by kernel_rfl) (by kernel_rfl) (fun _ _ _ h => h) (Or.inl ⟨by kernel_rfl, ?_⟩) ⟨b1.cell rfl, n1.cell rfl, n1.cell rfl⟩ ?_
  rotate_left
  · (rintro w ⟨s0, s1, s2⟩; go_simp; (first | done | rfl))
  try simp only [Act.put, List.getElem_toArray, List.getElem_cons_zero, List.getElem_cons_succ, List.setIfInBounds_toArray, List.set_cons_zero, List.set_cons_succ]
  refine wpAnyH_take (i := 1) (oi := _) (v := ?_) rfl (by kernel_rfl) (by kernel_rfl) (by kernel_rfl) (fun _ _ _ h => h) (Or.inl ⟨by kernel_rfl, ?_⟩) ⟨b1.cell rfl, n1.cell rfl, n1.cell rfl⟩ ?_
  rotate_left
  · (rintro w ⟨s0, s1, s2⟩; go_simp; (first | done | rfl))
  try simp only [Act.put, List.getElem_toArray, List.getElem_cons_zero, List.getElem_cons_succ, List.setIfInBounds_toArray, List.set_cons_zero, List.set_cons_succ]
  refine wpAnyH_take (i := 2) (oi := _) (v := ?_) rfl (by kernel_rfl) (by kernel_rfl) (by kernel_rfl) (fun _ _ _ h => h) (Or.inl ⟨by kernel_rfl, ?_⟩) ⟨b1.cell rfl, n1.cell rfl, n1.cell rfl⟩ ?_
  rotate_left
  · (rintro w ⟨s0, s1, s2⟩; go_simp; (first | done | rfl))
  try simp only [Act.put, List.getElem_toArray, List.getElem_cons_zero, List.getElem_cons_succ, List.setIfInBounds_toArray, List.set_cons_zero, List.set_cons_succ]
  refine wpAnyH_take (i := 3) (oi := _) (v := ?_) rfl (by kernel_rfl) (by kernel_rfl) (by kernel_rfl) (fun _ _ _ h => h) (Or.inl ⟨by kernel_rfl, ?_⟩) ⟨b1.cell rfl, n1.cell rfl, n1.cell rfl⟩ ?_
  rotate_left
  · (rintro w ⟨s0, s1, s2⟩; go_simp; (first | done | rfl))
  try simp only [Act.put, List.getElem_toArray, List.getElem_cons_zero, List.getElem_cons_succ, List.setIfInBounds_toArray, List.set_cons_zero, List.set_cons_succ]
  refine wpAnyH_take (i := 4) (oi := _) (v := ?_) rfl (by kernel_rfl) (by kernel_rfl) (by kernel_rfl) (fun _ _ _ h => h) (Or.inl ⟨by kernel_rfl, ?_⟩) ⟨b1.cell rfl, n1.cell rfl, n1.cell rfl⟩ ?_
  rotate_left
  · (rintro w ⟨s0, s1, s2⟩; go_simp; (first | done | rfl))
  try simp only [Act.put, List.getElem_toArray, List.getElem_cons_zero, List.getElem_cons_succ, List.setIfInBounds_toArray, List.set_cons_zero, List.set_cons_succ]
  refine wpAnyH_take (i := 5) (oi := _) (v := ?_) rfl (by kernel_rfl) (by kernel_rfl) (by kernel_rfl) (fun _ _ _ h => h) (Or.inl ⟨by kernel_rfl, ?_⟩) ⟨b1.cell rfl, n1.cell rfl, n1.cell rfl⟩ ?_
  rotate_left
  · (rintro w ⟨s0, s1, s2⟩; go_simp; (first | done | rfl))
  try simp only [Act.put, List.getElem_toArray, List.getElem_cons_zero, List.getElem_cons_succ, List.setIfInBounds_toArray, List.set_cons_zero, List.set_cons_succ]
  refine wpAnyH_take (i := 6) (oi := _) (v := ?_) rfl (by kernel_rfl) (by kernel_rfl) (by kernel_rfl) (fun _ _ _ h => h) (Or.inl ⟨by kernel_rfl, ?_⟩) ⟨b1.cell rfl, n1.cell rfl, n1.cell rfl⟩ ?_
  rotate_left
  · (rintro w ⟨s0, s1, s2⟩; go_simp; (first | done | rfl))
  try simp only [Act.put, List.getElem_toArray, List.getElem_cons_zero, List.getElem_cons_succ, List.setIfInBounds_toArray, List.set_cons_zero, List.set_cons_succ]
  refine wpAnyH_take (i := 7) (oi := _) (v := ?_) rfl (by kernel_rfl) (by kernel_rfl) (by kernel_rfl) (fun _ _ _ h => h) (Or.inl ⟨by kernel_rfl, ?_⟩) ⟨b1.cell rfl, n1.cell rfl, n1.cell rfl⟩ ?_
  rotate_left
  · (rintro w ⟨s0, s1, s2⟩; go_simp; (first | done | rfl))
  try simp only [Act.put, List.getElem_toArray, List.getElem_cons_zero, List.getElem_cons_succ, List.setIfInBounds_toArray, List.set_cons_zero, List.set_cons_succ]
  refine wpAnyH_take (i := 8) (oi := _) (v := ?_) rfl (by kernel_rfl) (by kernel_rfl) (by kernel_rfl) (fun _ _ _ h => h) (Or.inl ⟨by kernel_rfl, ?_⟩) ⟨b1.cell rfl, n1.cell rfl, n1.cell rfl⟩ ?_
  rotate_left
  · (rintro w ⟨s0, s1, s2⟩; go_simp; (first | done | rfl))
  try simp only [Act.put, List.getElem_toArray, List.getElem_cons_zero, List.getElem_cons_succ, List.setIfInBounds_toArray, List.set_cons_zero, List.set_cons_succ]
  refine wpAnyH_take (i := 9) (oi := _) (v := ?_) rfl (by kernel_rfl) (by kernel_rfl) (by kernel_rfl) (fun _ _ _ h => h) (Or.inl ⟨by kernel_rfl, ?_⟩) ⟨b1.cell rfl, n1.cell rfl, n1.cell rfl⟩ ?_
  rotate_left
  · (rintro w ⟨s0, s1, s2⟩; go_simp; (first | done | rfl))
  try simp only [Act.put, List.getElem_toArray, List.getElem_cons_zero, List.getElem_cons_succ, List.setIfInBounds_toArray, List.set_cons_zero, List.set_cons_succ]
  refine wpAnyH_take (i := 10) (oi := _) (v := ?_) rfl (by kernel_rfl) (by kernel_rfl) (by kernel_rfl) (fun _ _ _ h => h) (Or.inl ⟨by kernel_rfl, ?_⟩) ⟨b1.cell rfl, n1.cell rfl, n1.cell rfl⟩ ?_
  rotate_left
  · (rintro w ⟨s0, s1, s2⟩; go_simp; (first | done | rfl))
  try simp only [Act.put, List.getElem_toArray, List.getElem_cons_zero, List.getElem_cons_succ, List.setIfInBounds_toArray, List.set_cons_zero, List.set_cons_succ]
  refine wpAnyH_take (i := 11) (oi := _) (v := ?_) rfl (by kernel_rfl) (by kernel_rfl) (by kernel_rfl) (fun _ _ _ h => h) (Or.inl ⟨by kernel_rfl, ?_⟩) ⟨b1.cell rfl, n1.cell rfl, n1.cell rfl⟩ ?_
  rotate_left
  · (rintro w ⟨s0, s1, s2⟩; go_simp; (first | done | rfl))
  try simp only [Act.put, List.getElem_toArray, List.getElem_cons_zero, List.getElem_cons_succ, List.setIfInBounds_toArray, List.set_cons_zero, List.set_cons_succ]
  refine wpAnyH_take (i := 12) (oi := _) (v := ?_) rfl (by kernel_rfl) (by kernel_rfl) (by kernel_rfl) (fun _ _ _ h => h) (Or.inl ⟨by kernel_rfl, ?_⟩) ⟨b1.cell rfl, n1.cell rfl, n1.cell rfl⟩ ?_
  rotate_left
  · (rintro w ⟨s0, s1, s2⟩; go_simp; (first | done | rfl))
  try simp only [Act.put, List.getElem_toArray, List.getElem_cons_zero, List.getElem_cons_succ, List.setIfInBounds_toArray, List.set_cons_zero, List.set_cons_succ]
  refine wpAnyH_take (i := 13) (oi := _) (v := ?_) rfl (by kernel_rfl) (by kernel_rfl) (by kernel_rfl) (fun _ _ _ h => h) (Or.inl ⟨by kernel_rfl, ?_⟩) ⟨b1.cell rfl, n1.cell rfl, n1.cell rfl⟩ ?_
  rotate_left
  · (rintro w ⟨s0, s1, s2⟩; go_simp; (first | done | rfl))
  try simp only [Act.put, List.getElem_toArray, List.getElem_cons_zero, List.getElem_cons_succ, List.setIfInBounds_toArray, List.set_cons_zero, List.set_cons_succ]
  refine wpAnyH_take (i := 14) (oi := _) (v := ?_) rfl (by kernel_rfl) (by kernel_rfl) (by kernel_rfl) (fun _ _ _ h => h) (Or.inl ⟨by kernel_rfl, ?_⟩) ⟨b1.cell rfl, n1.cell rfl, n1.cell rfl⟩ ?_
  rotate_left
  · (rintro w ⟨s0, s1, s2⟩; go_simp; (first | done | rfl))
  try simp only [Act.put, List.getElem_toArray, List.getElem_cons_zero, List.getElem_cons_succ, List.setIfInBounds_toArray, List.set_cons_zero, List.set_cons_succ]
  refine wpAnyH_take (i := 15) (oi := _) (v := ?_) rfl (by kernel_rfl) (by kernel_rfl) (by kernel_rfl) (fun _ _ _ h => h) (Or.inl ⟨by kernel_rfl, ?_⟩) ⟨b1.cell rfl, n1.cell rfl, n1.cell rfl⟩ ?_
  rotate_left
  · (rintro w ⟨s0, s1, s2⟩; go_simp; (first | done | rfl))
  try simp only [Act.put, List.getElem_toArray, List.getElem_cons_zero, List.getElem_cons_succ, List.setIfInBounds_toArray, List.set_cons_zero, List.set_cons_succ]
  refine wpAnyH_take (i := 16) (oi := _) (v := undef) rfl (by kernel_rfl) (by kernel_rfl) (by kernel_rfl) (fun _ _ _ h => h) (Or.inr ⟨by kernel_rfl, rfl⟩) ⟨b1.cell rfl, n1.cell rfl, n1.cell rfl⟩ ?_
  try simp only [Act.put, List.getElem_toArray, List.getElem_cons_zero, List.getElem_cons_succ, List.setIfInBounds_toArray, List.set_cons_zero, List.set_cons_succ]
  refine wpAnyH_take (i := 17) (oi := _) (v := undef) rfl (by kernel_rfl) (by kernel_rfl) (by kernel_rfl) (fun _ _ _ h => h) (Or.inr ⟨by kernel_rfl, rfl⟩) ⟨b1.cell rfl, n1.cell rfl, n1.cell rfl⟩ ?_
  try simp only [Act.put, List.getElem_toArray, List.getElem_cons_zero, List.getElem_cons_succ, List.setIfInBounds_toArray, List.set_cons_zero, List.set_cons_succ]
  refine wpAnyH_take (i := 18) (oi := _) (v := undef) rfl (by kernel_rfl) (by kernel_rfl) (by kernel_rfl) (fun _ _ _ h => h) (Or.inr ⟨by kernel_rfl, rfl⟩) ⟨b1.cell rfl, n1.cell rfl, n1.cell rfl⟩ ?_
  try simp only [Act.put, List.getElem_toArray, List.getElem_cons_zero, List.getElem_cons_succ, List.setIfInBounds_toArray, List.set_cons_zero, List.set_cons_succ]
  refine wpAnyH_take (i := 19) (oi := _) (v := undef) rfl (by kernel_rfl) (by kernel_rfl) (by kernel_rfl) (fun _ _ _ h => h) (Or.inr ⟨by kernel_rfl, rfl⟩) ⟨b1.cell rfl, n1.cell rfl, n1.cell rfl⟩ ?_
  try simp only [Act.put, List.getElem_toArray, List.getElem_cons_zero, List.getElem_cons_succ, List.setIfInBounds_toArray, List.set_cons_zero, List.set_cons_succ]
  refine wpAnyH_take (i := 20) (oi := _) (v := undef) rfl (by kernel_rfl) (by kernel_rfl) (by kernel_rfl) (fun _ _ _ h => h) (Or.inr ⟨by kernel_rfl, rfl⟩) ⟨b1.cell rfl, n1.cell rfl, n1.cell rfl⟩ ?_
  try simp only [Act.put, List.getElem_toArray, List.getElem_cons_zero, List.getElem_cons_succ, List.setIfInBounds_toArray, List.set_cons_zero, List.set_cons_succ]
  refine wpAnyH_take (i := 21) (oi := _) (v := undef) rfl (by kernel_rfl) (by kernel_rfl) (by kernel_rfl) (fun _ _ _ h => h) (Or.inr ⟨by kernel_rfl, rfl⟩) ⟨b1.cell rfl, n1.cell rfl, n1.cell rfl⟩ ?_
  try simp only [Act.put, List.getElem_toArray, List.getElem_cons_zero, List.getElem_cons_succ, List.setIfInBounds_toArray, List.set_cons_zero, List.set_cons_succ]
  refine wpAnyH_take (i := 22) (oi := _) (v := undef) rfl (by kernel_rfl) (by kernel_rfl) (by kernel_rfl) (fun _ _ _ h => h) (Or.inr ⟨by kernel_rfl, rfl⟩) ⟨b1.cell rfl, n1.cell rfl, n1.cell rfl⟩ ?_
  try simp only [Act.put, List.getElem_toArray, List.getElem_cons_zero, List.getElem_cons_succ, List.setIfInBounds_toArray, List.set_cons_zero, List.set_cons_succ]
  refine wpAnyH_take (i := 23) (oi := _) (v := undef) rfl (by kernel_rfl) (by kernel_rfl) (by kernel_rfl) (fun _ _ _ h => h) (Or.inr ⟨by kernel_rfl, rfl⟩) ⟨b1.cell rfl, n1.cell rfl, n1.cell rfl⟩ ?_
  try simp only [Act.put, List.getElem_toArray, List.getElem_cons_zero, List.getElem_cons_succ, List.setIfInBounds_toArray, List.set_cons_zero, List.set_cons_succ]
  refine wpAnyH_take (i := 24) (oi := _) (v := ?_) rfl (by kernel_rfl) (by kernel_rfl) (by kernel_rfl) (fun _ _ _ h => h) (Or.inl ⟨by kernel_rfl, ?_⟩) ⟨b1.cell rfl, n1.cell rfl, n1.cell rfl⟩ ?_
  rotate_left
  · (rintro w ⟨s0, s1, s2⟩; go_simp; (first | done | rfl))
  try simp only [Act.put, List.getElem_toArray, List.getElem_cons_zero, List.getElem_cons_succ, List.setIfInBounds_toArray, List.set_cons_zero, List.set_cons_succ]
  refine wpAnyH_done (by kernel_rfl) ?_ _
  refine NoPanic.normal ?_
  go_wp2_with fail
  refine wp_region_noPanic ?_
  refine wp_region_held_drew (S := (fun w' => w'.cell? ⟨g, 0, none⟩ = some (.pointer (some ⟨bl, 0, none⟩)) ∧ w'.cell? ⟨bl, 0, none⟩ = some (.int .i64 kx.off) ∧ w'.cell? ⟨bl, 1, none⟩ = some (.int .i64 kx.len))) (by kernel_rfl) ⟨b1.cell rfl, n1.cell rfl, n1.cell rfl⟩ (fun _ => ?_)
  refine wpAnyH_take (i := 0) (oi := _) (v := ?_) rfl (by kernel_rfl) (by kernel_rfl) (by kernel_rfl) (fun _ _ _ h => h) (Or.inl ⟨by kernel_rfl, ?_⟩) ⟨b1.cell rfl, n1.cell rfl, n1.cell rfl⟩ ?_
  rotate_left
  · (rintro w ⟨s0, s1, s2⟩; go_simp; (first | done | rfl))
  try simp only [Act.put, List.getElem_toArray, List.getElem_cons_zero, List.getElem_cons_succ, List.setIfInBounds_toArray, List.set_cons_zero, List.set_cons_succ]
  refine wpAnyH_take (i := 1) (oi := _) (v := ?_) rfl (by kernel_rfl) (by kernel_rfl) (by kernel_rfl) (fun _ _ _ h => h) (Or.inl ⟨by kernel_rfl, ?_⟩) ⟨b1.cell rfl, n1.cell rfl, n1.cell rfl⟩ ?_
  rotate_left
  · (rintro w ⟨s0, s1, s2⟩; go_simp; (first | done | rfl))
  try simp only [Act.put, List.getElem_toArray, List.getElem_cons_zero, List.getElem_cons_succ, List.setIfInBounds_toArray, List.set_cons_zero, List.set_cons_succ]
  refine wpAnyH_take (i := 2) (oi := _) (v := ?_) rfl (by kernel_rfl) (by kernel_rfl) (by kernel_rfl) (fun _ _ _ h => h) (Or.inl ⟨by kernel_rfl, ?_⟩) ⟨b1.cell rfl, n1.cell rfl, n1.cell rfl⟩ ?_
  rotate_left
  · (rintro w ⟨s0, s1, s2⟩; go_simp; (first | done | rfl))
  try simp only [Act.put, List.getElem_toArray, List.getElem_cons_zero, List.getElem_cons_succ, List.setIfInBounds_toArray, List.set_cons_zero, List.set_cons_succ]
  refine wpAnyH_take (i := 3) (oi := _) (v := ?_) rfl (by kernel_rfl) (by kernel_rfl) (by kernel_rfl) (fun _ _ _ h => h) (Or.inl ⟨by kernel_rfl, ?_⟩) ⟨b1.cell rfl, n1.cell rfl, n1.cell rfl⟩ ?_
  rotate_left
  · (rintro w ⟨s0, s1, s2⟩; go_simp; (first | done | rfl))
  try simp only [Act.put, List.getElem_toArray, List.getElem_cons_zero, List.getElem_cons_succ, List.setIfInBounds_toArray, List.set_cons_zero, List.set_cons_succ]
  refine wpAnyH_take (i := 4) (oi := _) (v := ?_) rfl (by kernel_rfl) (by kernel_rfl) (by kernel_rfl) (fun _ _ _ h => h) (Or.inl ⟨by kernel_rfl, ?_⟩) ⟨b1.cell rfl, n1.cell rfl, n1.cell rfl⟩ ?_
  rotate_left
  · (rintro w ⟨s0, s1, s2⟩; go_simp; (first | done | rfl))
  try simp only [Act.put, List.getElem_toArray, List.getElem_cons_zero, List.getElem_cons_succ, List.setIfInBounds_toArray, List.set_cons_zero, List.set_cons_succ]
  refine wpAnyH_take (i := 5) (oi := _) (v := ?_) rfl (by kernel_rfl) (by kernel_rfl) (by kernel_rfl) (fun _ _ _ h => h) (Or.inl ⟨by kernel_rfl, ?_⟩) ⟨b1.cell rfl, n1.cell rfl, n1.cell rfl⟩ ?_
  rotate_left
  · (rintro w ⟨s0, s1, s2⟩; go_simp; (first | done | rfl))
  try simp only [Act.put, List.getElem_toArray, List.getElem_cons_zero, List.getElem_cons_succ, List.setIfInBounds_toArray, List.set_cons_zero, List.set_cons_succ]
  refine wpAnyH_take (i := 6) (oi := _) (v := ?_) rfl (by kernel_rfl) (by kernel_rfl) (by kernel_rfl) (fun _ _ _ h => h) (Or.inl ⟨by kernel_rfl, ?_⟩) ⟨b1.cell rfl, n1.cell rfl, n1.cell rfl⟩ ?_
  rotate_left
  · (rintro w ⟨s0, s1, s2⟩; go_simp; (first | done | rfl))
  try simp only [Act.put, List.getElem_toArray, List.getElem_cons_zero, List.getElem_cons_succ, List.setIfInBounds_toArray, List.set_cons_zero, List.set_cons_succ]
  refine wpAnyH_take (i := 7) (oi := _) (v := ?_) rfl (by kernel_rfl) (by kernel_rfl) (by kernel_rfl) (fun _ _ _ h => h) (Or.inl ⟨by kernel_rfl, ?_⟩) ⟨b1.cell rfl, n1.cell rfl, n1.cell rfl⟩ ?_
  rotate_left
  · (rintro w ⟨s0, s1, s2⟩; go_simp; (first | done | rfl))
  try simp only [Act.put, List.getElem_toArray, List.getElem_cons_zero, List.getElem_cons_succ, List.setIfInBounds_toArray, List.set_cons_zero, List.set_cons_succ]
  refine wpAnyH_take (i := 8) (oi := _) (v := ?_) rfl (by kernel_rfl) (by kernel_rfl) (by kernel_rfl) (fun _ _ _ h => h) (Or.inl ⟨by kernel_rfl, ?_⟩) ⟨b1.cell rfl, n1.cell rfl, n1.cell rfl⟩ ?_
  rotate_left
  · (rintro w ⟨s0, s1, s2⟩; go_simp; (first | done | rfl))
  try simp only [Act.put, List.getElem_toArray, List.getElem_cons_zero, List.getElem_cons_succ, List.setIfInBounds_toArray, List.set_cons_zero, List.set_cons_succ]
  refine wpAnyH_take (i := 9) (oi := _) (v := ?_) rfl (by kernel_rfl) (by kernel_rfl) (by kernel_rfl) (fun _ _ _ h => h) (Or.inl ⟨by kernel_rfl, ?_⟩) ⟨b1.cell rfl, n1.cell rfl, n1.cell rfl⟩ ?_
  rotate_left
  · (rintro w ⟨s0, s1, s2⟩; go_simp; (first | done | rfl))
  try simp only [Act.put, List.getElem_toArray, List.getElem_cons_zero, List.getElem_cons_succ, List.setIfInBounds_toArray, List.set_cons_zero, List.set_cons_succ]
  refine wpAnyH_take (i := 10) (oi := _) (v := ?_) rfl (by kernel_rfl) (by kernel_rfl) (by kernel_rfl) (fun _ _ _ h => h) (Or.inl ⟨by kernel_rfl, ?_⟩) ⟨b1.cell rfl, n1.cell rfl, n1.cell rfl⟩ ?_
  rotate_left
  · (rintro w ⟨s0, s1, s2⟩; go_simp; (first | done | rfl))
  try simp only [Act.put, List.getElem_toArray, List.getElem_cons_zero, List.getElem_cons_succ, List.setIfInBounds_toArray, List.set_cons_zero, List.set_cons_succ]
  refine wpAnyH_take (i := 11) (oi := _) (v := ?_) rfl (by kernel_rfl) (by kernel_rfl) (by kernel_rfl) (fun _ _ _ h => h) (Or.inl ⟨by kernel_rfl, ?_⟩) ⟨b1.cell rfl, n1.cell rfl, n1.cell rfl⟩ ?_
  rotate_left
  · (rintro w ⟨s0, s1, s2⟩; go_simp; (first | done | rfl))
  try simp only [Act.put, List.getElem_toArray, List.getElem_cons_zero, List.getElem_cons_succ, List.setIfInBounds_toArray, List.set_cons_zero, List.set_cons_succ]
  refine wpAnyH_take (i := 12) (oi := _) (v := ?_) rfl (by kernel_rfl) (by kernel_rfl) (by kernel_rfl) (fun _ _ _ h => h) (Or.inl ⟨by kernel_rfl, ?_⟩) ⟨b1.cell rfl, n1.cell rfl, n1.cell rfl⟩ ?_
  rotate_left
  · (rintro w ⟨s0, s1, s2⟩; go_simp; (first | done | rfl))
  try simp only [Act.put, List.getElem_toArray, List.getElem_cons_zero, List.getElem_cons_succ, List.setIfInBounds_toArray, List.set_cons_zero, List.set_cons_succ]
  refine wpAnyH_take (i := 13) (oi := _) (v := ?_) rfl (by kernel_rfl) (by kernel_rfl) (by kernel_rfl) (fun _ _ _ h => h) (Or.inl ⟨by kernel_rfl, ?_⟩) ⟨b1.cell rfl, n1.cell rfl, n1.cell rfl⟩ ?_
  rotate_left
  · (rintro w ⟨s0, s1, s2⟩; go_simp; (first | done | rfl))
  try simp only [Act.put, List.getElem_toArray, List.getElem_cons_zero, List.getElem_cons_succ, List.setIfInBounds_toArray, List.set_cons_zero, List.set_cons_succ]
  refine wpAnyH_take (i := 14) (oi := _) (v := ?_) rfl (by kernel_rfl) (by kernel_rfl) (by kernel_rfl) (fun _ _ _ h => h) (Or.inl ⟨by kernel_rfl, ?_⟩) ⟨b1.cell rfl, n1.cell rfl, n1.cell rfl⟩ ?_
  rotate_left
  · (rintro w ⟨s0, s1, s2⟩; go_simp; (first | done | rfl))
  try simp only [Act.put, List.getElem_toArray, List.getElem_cons_zero, List.getElem_cons_succ, List.setIfInBounds_toArray, List.set_cons_zero, List.set_cons_succ]
  refine wpAnyH_done (by kernel_rfl) ?_ _
  refine NoPanic.normal ?_
  go_wp2
  go_ret
  exact ⟨_, _, rfl, o1, ha1.drewR.drewR⟩
end
end Go.Proofs.Ytfcfffilfmbpeaa

namespace Go.Proofs.Ytfcfffilfmbpeaa
open Go.RowKit

section
variable (S : Nat → Prop)
set_option maxRecDepth 100000 in
set_option maxHeartbeats 4000000 in
theorem near_p7 (nw : Bool) (L R : Tr) (kx : Ext) (b e : Int) (fb : I64 b) (fe : I64 e) (hx : kx.may = true) (c1 : b ≤ kx.off) (hna : b ≤ kx.off + kx.len) (hnb : ¬ kx.off ≤ e) (c3 : ¬ kx.off + kx.len ≤ e) (hlL : (nearT L b e).length ≤ L.size) (ihL : Nears S L b e) (ihR : Nears S R b e) (a : Option Addr) (w : World) (B : Nat) (v : Value) (m : Nat) (acc : List Ext) (h : Tree w S a (.node nw L kx R)) (ho : Eo w B v m acc) (hB : B ≤ w.heap.size) (hs : m + (Tr.node nw L kx R).size ≤ 100000) :
    Calls Try.prog 59 #[.agg #[.pointer a], v, .int .i64 b, .int .i64 e] w fun en w' => ∃ v' m', en = .returned v' ∧ Eo w' B v' m' (acc ++ nearT L b e) ∧ After w v w' v' := by
  have hdb : decide (kx.off ≤ e) = false := decide_eq_false hnb
  have hdc : decide (kx.off + kx.len ≤ e) = false := decide_eq_false c3
  obtain ⟨i0, hi0, hz0, hz1, hz2⟩ := ext_info
  have Hz := Lib.hid hz2
  clear hz2
  have hxl := may_len hx
  have hsz : m + L.size + R.size + 1 ≤ 100000 := by simp only [Tr.size] at hs; omega
  obtain ⟨bl, aL, aR, rfl, hbl, fkx, -, hL, hR⟩ := h
  unfold I64 at fb fe
  have hwx : IntKind.i64.wrap (kx.off + kx.len) = kx.off + kx.len := by rw [IntKind.wrap_i64]; omega
  obtain ⟨A, c, rfl, -, -, -⟩ := own_form ho
  obtain ⟨w1, hw1⟩ : ∃ w1, w1 = w.alloc (.cells #[.pointer (some ⟨bl, 0, none⟩)] 103) := ⟨_, rfl⟩
  have b1 : Blk w1 w.heap.size 103 #[.pointer (some ⟨bl, 0, none⟩)] := by rw [hw1]; exact Blk.new _ _ _ rfl
  have hB1 : Below w.heap.size w w1 := by rw [hw1]; exact (Below.refl _ _).alloc (Nat.le_refl _) _
  have ha1 : After w (.slice A m c) w1 (.slice A m c) := by rw [hw1]; exact (After.refl _ _).alloc _
  have n1 := hbl.keep hB1
  have tL1 := hL.below hB1
  have tR1 := hR.below hB1
  have o1 := own_keep ho hB1
  have e0 := b1.cell (j := 0) (u := .pointer (some ⟨bl, 0, none⟩)) rfl
  have e1 := n1.cell (j := 0) (u := .int .i64 kx.off) rfl
  have e4 := n1.cell (j := 4) (u := .pointer aL) rfl
  have Hm1 := Lib.hid (eo_len o1)
  have hs1 := hB1.size
  clear hbl hL hR ho hs hB1
  rw [hw1] at e0 e1 e4
  go_enter Try.func59, Try.ntmps59
  go_wp2_with fail
  rw [← hw1]
  clear hw1 e0 e1 e4
  generalize hg : w.heap.size = g at *
  refine (ihL aL w1 B (.slice A m c) m acc tL1 o1 (by omega) (by omega)).mono ?_
  rintro en w2 ⟨v2, m2, rfl, o2, ha2⟩
  have b2 := blk_own b1 (by decide) o1 ha2.1
  have n2 := blk_own n1 (by decide) o1 ha2.1
  have tR2 := tree_own o1 ha2.1 tR1
  have hm2 := eo_len o2
  rw [List.length_append, ← Hm1.out] at hm2
  have hs2 := ha2.1.size
  replace ha2 := ha1.trans ha2
  obtain ⟨A2, cc2, rfl, -, -, -⟩ := own_form o2
  clear b1 n1 tR1 o1 ha1
  have hM2 : m2 + R.size + 1 ≤ 100000 := by omega
  replace hs2 : g ≤ w2.heap.size := by omega
  clear hs1 hm2
  go_wp2_with fail
  refine wp_region_noPanic ?_
  refine wp_region_held_drew (S := (fun w' => w'.cell? ⟨g, 0, none⟩ = some (.pointer (some ⟨bl, 0, none⟩)) ∧ w'.cell? ⟨bl, 0, none⟩ = some (.int .i64 kx.off) ∧ w'.cell? ⟨bl, 1, none⟩ = some (.int .i64 kx.len))) (by kernel_rfl) ⟨b2.cell rfl, n2.cell rfl, n2.cell rfl⟩ (fun _ => ?_)
  refine wpAnyH_take (i := 0) (oi := _) (v := ?_) rfl (by kernel_rfl) (by kernel_rfl) (by kernel_rfl) (fun _ _ _ h => h) (Or.inl ⟨by kernel_rfl, ?_⟩) ⟨b2.cell rfl, n2.cell rfl, n2.cell rfl⟩ ?_
  rotate_left
  · (rintro w ⟨s0, s1, s2⟩; go_simp; (first | done | rfl))
  try simp only [Act.put, List.getElem_toArray, List.getElem_cons_zero, List.getElem_cons_succ, List.setIfInBounds_toArray, List.set_cons_zero, List.set_cons_succ]
  refine wpAnyH_take (i := 1) (oi := _) (v := ?_) rfl (by kernel_rfl) (by kernel_rfl) (by kernel_rfl) (fun _ _ _ h => h) (Or.inl ⟨by kernel_rfl, ?_⟩) ⟨b2.cell rfl, n2.cell rfl, n2.cell rfl⟩ ?_
  rotate_left
  · (rintro w ⟨s0, s1, s2⟩; go_simp; (first | done | rfl))
  try simp only [Act.put, List.getElem_toArray, List.getElem_cons_zero, List.getElem_cons_succ, List.setIfInBounds_toArray, List.set_cons_zero, List.set_cons_succ]
  refine wpAnyH_take (i := 2) (oi := _) (v := ?_) rfl (by kernel_rfl) (by kernel_rfl) (by kernel_rfl) (fun _ _ _ h => h) (Or.inl ⟨by kernel_rfl, ?_⟩) ⟨b2.cell rfl, n2.cell rfl, n2.cell rfl⟩ ?_
  rotate_left
  · (rintro w ⟨s0, s1, s2⟩; go_simp; (first | done | rfl))
  try simp only [Act.put, List.getElem_toArray, List.getElem_cons_zero, List.getElem_cons_succ, List.setIfInBounds_toArray, List.set_cons_zero, List.set_cons_succ]
  refine wpAnyH_take (i := 3) (oi := _) (v := ?_) rfl (by kernel_rfl) (by kernel_rfl) (by kernel_rfl) (fun _ _ _ h => h) (Or.inl ⟨by kernel_rfl, ?_⟩) ⟨b2.cell rfl, n2.cell rfl, n2.cell rfl⟩ ?_
  rotate_left
  · (rintro w ⟨s0, s1, s2⟩; go_simp; (first | done | rfl))
  try simp only [Act.put, List.getElem_toArray, List.getElem_cons_zero, List.getElem_cons_succ, List.setIfInBounds_toArray, List.set_cons_zero, List.set_cons_succ]
  refine wpAnyH_take (i := 4) (oi := _) (v := ?_) rfl (by kernel_rfl) (by kernel_rfl) (by kernel_rfl) (fun _ _ _ h => h) (Or.inl ⟨by kernel_rfl, ?_⟩) ⟨b2.cell rfl, n2.cell rfl, n2.cell rfl⟩ ?_
  rotate_left
  · (rintro w ⟨s0, s1, s2⟩; go_simp; (first | done | rfl))
  try simp only [Act.put, List.getElem_toArray, List.getElem_cons_zero, List.getElem_cons_succ, List.setIfInBounds_toArray, List.set_cons_zero, List.set_cons_succ]
  refine wpAnyH_take (i := 5) (oi := _) (v := ?_) rfl (by kernel_rfl) (by kernel_rfl) (by kernel_rfl) (fun _ _ _ h => h) (Or.inl ⟨by kernel_rfl, ?_⟩) ⟨b2.cell rfl, n2.cell rfl, n2.cell rfl⟩ ?_
  rotate_left
  · (rintro w ⟨s0, s1, s2⟩; go_simp; (first | done | rfl))
  try simp only [Act.put, List.getElem_toArray, List.getElem_cons_zero, List.getElem_cons_succ, List.setIfInBounds_toArray, List.set_cons_zero, List.set_cons_succ]
  refine wpAnyH_take (i := 6) (oi := _) (v := ?_) rfl (by kernel_rfl) (by kernel_rfl) (by kernel_rfl) (fun _ _ _ h => h) (Or.inl ⟨by kernel_rfl, ?_⟩) ⟨b2.cell rfl, n2.cell rfl, n2.cell rfl⟩ ?_
  rotate_left
  · (rintro w ⟨s0, s1, s2⟩; go_simp; (first | done | rfl))
  try simp only [Act.put, List.getElem_toArray, List.getElem_cons_zero, List.getElem_cons_succ, List.setIfInBounds_toArray, List.set_cons_zero, List.set_cons_succ]
  refine wpAnyH_take (i := 7) (oi := _) (v := ?_) rfl (by kernel_rfl) (by kernel_rfl) (by kernel_rfl) (fun _ _ _ h => h) (Or.inl ⟨by kernel_rfl, ?_⟩) ⟨b2.cell rfl, n2.cell rfl, n2.cell rfl⟩ ?_
  rotate_left
  · (rintro w ⟨s0, s1, s2⟩; go_simp; (first | done | rfl))
  try simp only [Act.put, List.getElem_toArray, List.getElem_cons_zero, List.getElem_cons_succ, List.setIfInBounds_toArray, List.set_cons_zero, List.set_cons_succ]
  refine wpAnyH_take (i := 8) (oi := _) (v := ?_) rfl (by kernel_rfl) (by kernel_rfl) (by kernel_rfl) (fun _ _ _ h => h) (Or.inl ⟨by kernel_rfl, ?_⟩) ⟨b2.cell rfl, n2.cell rfl, n2.cell rfl⟩ ?_
  rotate_left
  · (rintro w ⟨s0, s1, s2⟩; go_simp; (first | done | rfl))
  try simp only [Act.put, List.getElem_toArray, List.getElem_cons_zero, List.getElem_cons_succ, List.setIfInBounds_toArray, List.set_cons_zero, List.set_cons_succ]
  refine wpAnyH_take (i := 9) (oi := _) (v := ?_) rfl (by kernel_rfl) (by kernel_rfl) (by kernel_rfl) (fun _ _ _ h => h) (Or.inl ⟨by kernel_rfl, ?_⟩) ⟨b2.cell rfl, n2.cell rfl, n2.cell rfl⟩ ?_
  rotate_left
  · (rintro w ⟨s0, s1, s2⟩; go_simp; (first | done | rfl))
  try simp only [Act.put, List.getElem_toArray, List.getElem_cons_zero, List.getElem_cons_succ, List.setIfInBounds_toArray, List.set_cons_zero, List.set_cons_succ]
  refine wpAnyH_take (i := 10) (oi := _) (v := ?_) rfl (by kernel_rfl) (by kernel_rfl) (by kernel_rfl) (fun _ _ _ h => h) (Or.inl ⟨by kernel_rfl, ?_⟩) ⟨b2.cell rfl, n2.cell rfl, n2.cell rfl⟩ ?_
  rotate_left
  · (rintro w ⟨s0, s1, s2⟩; go_simp; (first | done | rfl))
  try simp only [Act.put, List.getElem_toArray, List.getElem_cons_zero, List.getElem_cons_succ, List.setIfInBounds_toArray, List.set_cons_zero, List.set_cons_succ]
  refine wpAnyH_take (i := 11) (oi := _) (v := ?_) rfl (by kernel_rfl) (by kernel_rfl) (by kernel_rfl) (fun _ _ _ h => h) (Or.inl ⟨by kernel_rfl, ?_⟩) ⟨b2.cell rfl, n2.cell rfl, n2.cell rfl⟩ ?_
  rotate_left
  · (rintro w ⟨s0, s1, s2⟩; go_simp; (first | done | rfl))
  try simp only [Act.put, List.getElem_toArray, List.getElem_cons_zero, List.getElem_cons_succ, List.setIfInBounds_toArray, List.set_cons_zero, List.set_cons_succ]
  refine wpAnyH_take (i := 12) (oi := _) (v := ?_) rfl (by kernel_rfl) (by kernel_rfl) (by kernel_rfl) (fun _ _ _ h => h) (Or.inl ⟨by kernel_rfl, ?_⟩) ⟨b2.cell rfl, n2.cell rfl, n2.cell rfl⟩ ?_
  rotate_left
  · (rintro w ⟨s0, s1, s2⟩; go_simp; (first | done | rfl))
  try simp only [Act.put, List.getElem_toArray, List.getElem_cons_zero, List.getElem_cons_succ, List.setIfInBounds_toArray, List.set_cons_zero, List.set_cons_succ]
  refine wpAnyH_take (i := 13) (oi := _) (v := ?_) rfl (by kernel_rfl) (by kernel_rfl) (by kernel_rfl) (fun _ _ _ h => h) (Or.inl ⟨by kernel_rfl, ?_⟩) ⟨b2.cell rfl, n2.cell rfl, n2.cell rfl⟩ ?_
  rotate_left
  · (rintro w ⟨s0, s1, s2⟩; go_simp; (first | done | rfl))
  try simp only [Act.put, List.getElem_toArray, List.getElem_cons_zero, List.getElem_cons_succ, List.setIfInBounds_toArray, List.set_cons_zero, List.set_cons_succ]
  refine wpAnyH_take (i := 14) (oi := _) (v := ?_) rfl (by kernel_rfl) (by kernel_rfl) (by kernel_rfl) (fun _ _ _ h => h) (Or.inl ⟨by kernel_rfl, ?_⟩) ⟨b2.cell rfl, n2.cell rfl, n2.cell rfl⟩ ?_
  rotate_left
  · (rintro w ⟨s0, s1, s2⟩; go_simp; (first | done | rfl))
  try simp only [Act.put, List.getElem_toArray, List.getElem_cons_zero, List.getElem_cons_succ, List.setIfInBounds_toArray, List.set_cons_zero, List.set_cons_succ]
  refine wpAnyH_take (i := 15) (oi := _) (v := ?_) rfl (by kernel_rfl) (by kernel_rfl) (by kernel_rfl) (fun _ _ _ h => h) (Or.inl ⟨by kernel_rfl, ?_⟩) ⟨b2.cell rfl, n2.cell rfl, n2.cell rfl⟩ ?_
  rotate_left
  · (rintro w ⟨s0, s1, s2⟩; go_simp; (first | done | rfl))
  try simp only [Act.put, List.getElem_toArray, List.getElem_cons_zero, List.getElem_cons_succ, List.setIfInBounds_toArray, List.set_cons_zero, List.set_cons_succ]
  refine wpAnyH_take (i := 16) (oi := _) (v := ?_) rfl (by kernel_rfl) (by kernel_rfl) (by kernel_rfl) (fun _ _ _ h => h) (Or.inl ⟨by kernel_rfl, ?_⟩) ⟨b2.cell rfl, n2.cell rfl, n2.cell rfl⟩ ?_
  rotate_left
  · (rintro w ⟨s0, s1, s2⟩; go_simp; (first | done | rfl))
  try simp only [Act.put, List.getElem_toArray, List.getElem_cons_zero, List.getElem_cons_succ, List.setIfInBounds_toArray, List.set_cons_zero, List.set_cons_succ]
  refine wpAnyH_take (i := 17) (oi := _) (v := ?_) rfl (by kernel_rfl) (by kernel_rfl) (by kernel_rfl) (fun _ _ _ h => h) (Or.inl ⟨by kernel_rfl, ?_⟩) ⟨b2.cell rfl, n2.cell rfl, n2.cell rfl⟩ ?_
  rotate_left
  · (rintro w ⟨s0, s1, s2⟩; go_simp; (first | done | rfl))
  try simp only [Act.put, List.getElem_toArray, List.getElem_cons_zero, List.getElem_cons_succ, List.setIfInBounds_toArray, List.set_cons_zero, List.set_cons_succ]
  refine wpAnyH_take (i := 18) (oi := _) (v := ?_) rfl (by kernel_rfl) (by kernel_rfl) (by kernel_rfl) (fun _ _ _ h => h) (Or.inl ⟨by kernel_rfl, ?_⟩) ⟨b2.cell rfl, n2.cell rfl, n2.cell rfl⟩ ?_
  rotate_left
  · (rintro w ⟨s0, s1, s2⟩; go_simp; (first | done | rfl))
  try simp only [Act.put, List.getElem_toArray, List.getElem_cons_zero, List.getElem_cons_succ, List.setIfInBounds_toArray, List.set_cons_zero, List.set_cons_succ]
  refine wpAnyH_take (i := 19) (oi := _) (v := ?_) rfl (by kernel_rfl) (by kernel_rfl) (by kernel_rfl) (fun _ _ _ h => h) (Or.inl ⟨by kernel_rfl, ?_⟩) ⟨b2.cell rfl, n2.cell rfl, n2.cell rfl⟩ ?_
  rotate_left
  · (rintro w ⟨s0, s1, s2⟩; go_simp; (first | done | rfl))
  try simp only [Act.put, List.getElem_toArray, List.getElem_cons_zero, List.getElem_cons_succ, List.setIfInBounds_toArray, List.set_cons_zero, List.set_cons_succ]
  refine wpAnyH_take (i := 20) (oi := _) (v := ?_) rfl (by kernel_rfl) (by kernel_rfl) (by kernel_rfl) (fun _ _ _ h => h) (Or.inl ⟨by kernel_rfl, ?_⟩) ⟨b2.cell rfl, n2.cell rfl, n2.cell rfl⟩ ?_
  rotate_left
  · (rintro w ⟨s0, s1, s2⟩; go_simp; (first | done | rfl))
  try simp only [Act.put, List.getElem_toArray, List.getElem_cons_zero, List.getElem_cons_succ, List.setIfInBounds_toArray, List.set_cons_zero, List.set_cons_succ]
  refine wpAnyH_take (i := 21) (oi := _) (v := ?_) rfl (by kernel_rfl) (by kernel_rfl) (by kernel_rfl) (fun _ _ _ h => h) (Or.inl ⟨by kernel_rfl, ?_⟩) ⟨b2.cell rfl, n2.cell rfl, n2.cell rfl⟩ ?_
  rotate_left
  · (rintro w ⟨s0, s1, s2⟩; go_simp; (first | done | rfl))
  try simp only [Act.put, List.getElem_toArray, List.getElem_cons_zero, List.getElem_cons_succ, List.setIfInBounds_toArray, List.set_cons_zero, List.set_cons_succ]
  refine wpAnyH_take (i := 22) (oi := _) (v := ?_) rfl (by kernel_rfl) (by kernel_rfl) (by kernel_rfl) (fun _ _ _ h => h) (Or.inl ⟨by kernel_rfl, ?_⟩) ⟨b2.cell rfl, n2.cell rfl, n2.cell rfl⟩ ?_
  rotate_left
  · (rintro w ⟨s0, s1, s2⟩; go_simp; (first | done | rfl))
  try simp only [Act.put, List.getElem_toArray, List.getElem_cons_zero, List.getElem_cons_succ, List.setIfInBounds_toArray, List.set_cons_zero, List.set_cons_succ]
  refine wpAnyH_take (i := 23) (oi := _) (v := ?_) rfl (by kernel_rfl) (by kernel_rfl) (by kernel_rfl) (fun _ _ _ h => h) (Or.inl ⟨by kernel_rfl, ?_⟩) ⟨b2.cell rfl, n2.cell rfl, n2.cell rfl⟩ ?_
  rotate_left
  · (rintro w ⟨s0, s1, s2⟩; go_simp; (first | done | rfl))
  try simp only [Act.put, List.getElem_toArray, List.getElem_cons_zero, List.getElem_cons_succ, List.setIfInBounds_toArray, List.set_cons_zero, List.set_cons_succ]
  refine wpAnyH_take (i := 24) (oi := _) (v := ?_) rfl (by kernel_rfl) (by kernel_rfl) (by kernel_rfl) (fun _ _ _ h => h) (Or.inl ⟨by kernel_rfl, ?_⟩) ⟨b2.cell rfl, n2.cell rfl, n2.cell rfl⟩ ?_
  rotate_left
  · (rintro w ⟨s0, s1, s2⟩; go_simp; (first | done | rfl))
  try simp only [Act.put, List.getElem_toArray, List.getElem_cons_zero, List.getElem_cons_succ, List.setIfInBounds_toArray, List.set_cons_zero, List.set_cons_succ]
  refine wpAnyH_done (by kernel_rfl) ?_ _
  refine NoPanic.normal ?_
  go_wp2_with fail
  refine wp_region_noPanic ?_
  refine wp_region_held_drew (S := (fun w' => w'.cell? ⟨g, 0, none⟩ = some (.pointer (some ⟨bl, 0, none⟩)) ∧ w'.cell? ⟨bl, 0, none⟩ = some (.int .i64 kx.off) ∧ w'.cell? ⟨bl, 1, none⟩ = some (.int .i64 kx.len))) (by kernel_rfl) ⟨b2.cell rfl, n2.cell rfl, n2.cell rfl⟩ (fun _ => ?_)
  refine wpAnyH_take (i := 0) (oi := _) (v := ?_) rfl (by kernel_rfl) (by kernel_rfl) (by kernel_rfl) (fun _ _ _ h => h) (Or.inl ⟨by kernel_rfl, ?_⟩) ⟨b2.cell rfl, n2.cell rfl, n2.cell rfl⟩ ?_
  rotate_left
  · (rintro w ⟨s0, s1, s2⟩; go_simp; (first | done | rfl))
  try simp only [Act.put, List.getElem_toArray, List.getElem_cons_zero, List.getElem_cons_succ, List.setIfInBounds_toArray, List.set_cons_zero, List.set_cons_succ]
  refine wpAnyH_take (i := 1) (oi := _) (v := ?_) rfl (by kernel_rfl) (by kernel_rfl) (by kernel_rfl) (fun _ _ _ h => h) (Or.inl ⟨by kernel_rfl, ?_⟩) ⟨b2.cell rfl, n2.cell rfl, n2.cell rfl⟩ ?_
  rotate_left
  · (rintro w ⟨s0, s1, s2⟩; go_simp; (first | done | rfl))
  try simp only [Act.put, List.getElem_toArray, List.getElem_cons_zero, List.getElem_cons_succ, List.setIfInBounds_toArray, List.set_cons_zero, List.set_cons_succ]
  refine wpAnyH_take (i := 2) (oi := _) (v := ?_) rfl (by kernel_rfl) (by kernel_rfl) (by kernel_rfl) (fun _ _ _ h => h) (Or.inl ⟨by kernel_rfl, ?_⟩) ⟨b2.cell rfl, n2.cell rfl, n2.cell rfl⟩ ?_
  rotate_left
  · (rintro w ⟨s0, s1, s2⟩; go_simp; (first | done | rfl))
  try simp only [Act.put, List.getElem_toArray, List.getElem_cons_zero, List.getElem_cons_succ, List.setIfInBounds_toArray, List.set_cons_zero, List.set_cons_succ]
  refine wpAnyH_take (i := 3) (oi := _) (v := ?_) rfl (by kernel_rfl) (by kernel_rfl) (by kernel_rfl) (fun _ _ _ h => h) (Or.inl ⟨by kernel_rfl, ?_⟩) ⟨b2.cell rfl, n2.cell rfl, n2.cell rfl⟩ ?_
  rotate_left
  · (rintro w ⟨s0, s1, s2⟩; go_simp; (first | done | rfl))
  try simp only [Act.put, List.getElem_toArray, List.getElem_cons_zero, List.getElem_cons_succ, List.setIfInBounds_toArray, List.set_cons_zero, List.set_cons_succ]
  refine wpAnyH_take (i := 4) (oi := _) (v := ?_) rfl (by kernel_rfl) (by kernel_rfl) (by kernel_rfl) (fun _ _ _ h => h) (Or.inl ⟨by kernel_rfl, ?_⟩) ⟨b2.cell rfl, n2.cell rfl, n2.cell rfl⟩ ?_
  rotate_left
  · (rintro w ⟨s0, s1, s2⟩; go_simp; (first | done | rfl))
  try simp only [Act.put, List.getElem_toArray, List.getElem_cons_zero, List.getElem_cons_succ, List.setIfInBounds_toArray, List.set_cons_zero, List.set_cons_succ]
  refine wpAnyH_take (i := 5) (oi := _) (v := ?_) rfl (by kernel_rfl) (by kernel_rfl) (by kernel_rfl) (fun _ _ _ h => h) (Or.inl ⟨by kernel_rfl, ?_⟩) ⟨b2.cell rfl, n2.cell rfl, n2.cell rfl⟩ ?_
  rotate_left
  · (rintro w ⟨s0, s1, s2⟩; go_simp; (first | done | rfl))
  try simp only [Act.put, List.getElem_toArray, List.getElem_cons_zero, List.getElem_cons_succ, List.setIfInBounds_toArray, List.set_cons_zero, List.set_cons_succ]
  refine wpAnyH_take (i := 6) (oi := _) (v := ?_) rfl (by kernel_rfl) (by kernel_rfl) (by kernel_rfl) (fun _ _ _ h => h) (Or.inl ⟨by kernel_rfl, ?_⟩) ⟨b2.cell rfl, n2.cell rfl, n2.cell rfl⟩ ?_
  rotate_left
  · (rintro w ⟨s0, s1, s2⟩; go_simp; (first | done | rfl))
  try simp only [Act.put, List.getElem_toArray, List.getElem_cons_zero, List.getElem_cons_succ, List.setIfInBounds_toArray, List.set_cons_zero, List.set_cons_succ]
  refine wpAnyH_take (i := 7) (oi := _) (v := ?_) rfl (by kernel_rfl) (by kernel_rfl) (by kernel_rfl) (fun _ _ _ h => h) (Or.inl ⟨by kernel_rfl, ?_⟩) ⟨b2.cell rfl, n2.cell rfl, n2.cell rfl⟩ ?_
  rotate_left
  · (rintro w ⟨s0, s1, s2⟩; go_simp; (first | done | rfl))
  try simp only [Act.put, List.getElem_toArray, List.getElem_cons_zero, List.getElem_cons_succ, List.setIfInBounds_toArray, List.set_cons_zero, List.set_cons_succ]
  refine wpAnyH_take (i := 8) (oi := _) (v := ?_) rfl (by kernel_rfl) (by kernel_rfl) (by kernel_rfl) (fun _ _ _ h => h) (Or.inl ⟨by kernel_rfl, ?_⟩) ⟨b2.cell rfl, n2.cell rfl, n2.cell rfl⟩ ?_
  rotate_left
  · (rintro w ⟨s0, s1, s2⟩; go_simp; (first | done | rfl))
  try simp only [Act.put, List.getElem_toArray, List.getElem_cons_zero, List.getElem_cons_succ, List.setIfInBounds_toArray, List.set_cons_zero, List.set_cons_succ]
  refine wpAnyH_take (i := 9) (oi := _) (v := ?_) rfl (by kernel_rfl) (by kernel_rfl) (by kernel_rfl) (fun _ _ _ h => h) (Or.inl ⟨by kernel_rfl, ?_⟩) ⟨b2.cell rfl, n2.cell rfl, n2.cell rfl⟩ ?_
  rotate_left
  · (rintro w ⟨s0, s1, s2⟩; go_simp; (first | done | rfl))
  try simp only [Act.put, List.getElem_toArray, List.getElem_cons_zero, List.getElem_cons_succ, List.setIfInBounds_toArray, List.set_cons_zero, List.set_cons_succ]
  refine wpAnyH_take (i := 10) (oi := _) (v := ?_) rfl (by kernel_rfl) (by kernel_rfl) (by kernel_rfl) (fun _ _ _ h => h) (Or.inl ⟨by kernel_rfl, ?_⟩) ⟨b2.cell rfl, n2.cell rfl, n2.cell rfl⟩ ?_
  rotate_left
  · (rintro w ⟨s0, s1, s2⟩; go_simp; (first | done | rfl))
  try simp only [Act.put, List.getElem_toArray, List.getElem_cons_zero, List.getElem_cons_succ, List.setIfInBounds_toArray, List.set_cons_zero, List.set_cons_succ]
  refine wpAnyH_take (i := 11) (oi := _) (v := ?_) rfl (by kernel_rfl) (by kernel_rfl) (by kernel_rfl) (fun _ _ _ h => h) (Or.inl ⟨by kernel_rfl, ?_⟩) ⟨b2.cell rfl, n2.cell rfl, n2.cell rfl⟩ ?_
  rotate_left
  · (rintro w ⟨s0, s1, s2⟩; go_simp; (first | done | rfl))
  try simp only [Act.put, List.getElem_toArray, List.getElem_cons_zero, List.getElem_cons_succ, List.setIfInBounds_toArray, List.set_cons_zero, List.set_cons_succ]
  refine wpAnyH_take (i := 12) (oi := _) (v := ?_) rfl (by kernel_rfl) (by kernel_rfl) (by kernel_rfl) (fun _ _ _ h => h) (Or.inl ⟨by kernel_rfl, ?_⟩) ⟨b2.cell rfl, n2.cell rfl, n2.cell rfl⟩ ?_
  rotate_left
  · (rintro w ⟨s0, s1, s2⟩; go_simp; (first | done | rfl))
  try simp only [Act.put, List.getElem_toArray, List.getElem_cons_zero, List.getElem_cons_succ, List.setIfInBounds_toArray, List.set_cons_zero, List.set_cons_succ]
  refine wpAnyH_take (i := 13) (oi := _) (v := ?_) rfl (by kernel_rfl) (by kernel_rfl) (by kernel_rfl) (fun _ _ _ h => h) (Or.inl ⟨by kernel_rfl, ?_⟩) ⟨b2.cell rfl, n2.cell rfl, n2.cell rfl⟩ ?_
  rotate_left
  · (rintro w ⟨s0, s1, s2⟩; go_simp; (first | done | rfl))
  try simp only [Act.put, List.getElem_toArray, List.getElem_cons_zero, List.getElem_cons_succ, List.setIfInBounds_toArray, List.set_cons_zero, List.set_cons_succ]
  refine wpAnyH_take (i := 14) (oi := _) (v := ?_) rfl (by kernel_rfl) (by kernel_rfl) (by kernel_rfl) (fun _ _ _ h => h) (Or.inl ⟨by kernel_rfl, ?_⟩) ⟨b2.cell rfl, n2.cell rfl, n2.cell rfl⟩ ?_
  rotate_left
  · (rintro w ⟨s0, s1, s2⟩; go_simp; (first | done | rfl))
  try simp only [Act.put, List.getElem_toArray, List.getElem_cons_zero, List.getElem_cons_succ, List.setIfInBounds_toArray, List.set_cons_zero, List.set_cons_succ]
  refine wpAnyH_done (by kernel_rfl) ?_ _
  refine NoPanic.normal ?_
  go_wp2
  go_ret
  exact ⟨_, _, rfl, o2, ha2.drewR.drewR⟩
set_option maxRecDepth 100000 in
set_option maxHeartbeats 4000000 in
theorem near_p8 (nw : Bool) (L R : Tr) (kx : Ext) (b e : Int) (fb : I64 b) (fe : I64 e) (hx : kx.may = true) (c1 : ¬ b ≤ kx.off) (hna : b ≤ kx.off + kx.len) (hnb : ¬ kx.off ≤ e) (c3 : ¬ kx.off + kx.len ≤ e) (hlL : (nearT L b e).length ≤ L.size) (ihL : Nears S L b e) (ihR : Nears S R b e) (a : Option Addr) (w : World) (B : Nat) (v : Value) (m : Nat) (acc : List Ext) (h : Tree w S a (.node nw L kx R)) (ho : Eo w B v m acc) (hB : B ≤ w.heap.size) (hs : m + (Tr.node nw L kx R).size ≤ 100000) :
    Calls Try.prog 59 #[.agg #[.pointer a], v, .int .i64 b, .int .i64 e] w fun en w' => ∃ v' m', en = .returned v' ∧ Eo w' B v' m' acc ∧ After w v w' v' := by
  have hdb : decide (kx.off ≤ e) = false := decide_eq_false hnb
  have hdc : decide (kx.off + kx.len ≤ e) = false := decide_eq_false c3
  obtain ⟨i0, hi0, hz0, hz1, hz2⟩ := ext_info
  have Hz := Lib.hid hz2
  clear hz2
  have hxl := may_len hx
  have hsz : m + L.size + R.size + 1 ≤ 100000 := by simp only [Tr.size] at hs; omega
  obtain ⟨bl, aL, aR, rfl, hbl, fkx, -, hL, hR⟩ := h
  unfold I64 at fb fe
  have hwx : IntKind.i64.wrap (kx.off + kx.len) = kx.off + kx.len := by rw [IntKind.wrap_i64]; omega
  obtain ⟨A, c, rfl, -, -, -⟩ := own_form ho
  obtain ⟨w1, hw1⟩ : ∃ w1, w1 = w.alloc (.cells #[.pointer (some ⟨bl, 0, none⟩)] 103) := ⟨_, rfl⟩
  have b1 : Blk w1 w.heap.size 103 #[.pointer (some ⟨bl, 0, none⟩)] := by rw [hw1]; exact Blk.new _ _ _ rfl
  have hB1 : Below w.heap.size w w1 := by rw [hw1]; exact (Below.refl _ _).alloc (Nat.le_refl _) _
  have ha1 : After w (.slice A m c) w1 (.slice A m c) := by rw [hw1]; exact (After.refl _ _).alloc _
  have n1 := hbl.keep hB1
  have tL1 := hL.below hB1
  have tR1 := hR.below hB1
  have o1 := own_keep ho hB1
  have e0 := b1.cell (j := 0) (u := .pointer (some ⟨bl, 0, none⟩)) rfl
  have e1 := n1.cell (j := 0) (u := .int .i64 kx.off) rfl
  have e4 := n1.cell (j := 4) (u := .pointer aL) rfl
  have Hm1 := Lib.hid (eo_len o1)
  have hs1 := hB1.size
  clear hbl hL hR ho hs hB1
  rw [hw1] at e0 e1 e4
  go_enter Try.func59, Try.ntmps59
  go_wp2_with fail
  rw [← hw1]
  clear hw1 e0 e1 e4
  generalize hg : w.heap.size = g at *
  have hM1 : m + R.size + 1 ≤ 100000 := by omega
  refine wp_region_noPanic ?_
  refine wp_region_held_drew (S := (fun w' => w'.cell? ⟨g, 0, none⟩ = some (.pointer (some ⟨bl, 0, none⟩)) ∧ w'.cell? ⟨bl, 0, none⟩ = some (.int .i64 kx.off) ∧ w'.cell? ⟨bl, 1, none⟩ = some (.int .i64 kx.len))) (by kernel_rfl) ⟨b1.cell rfl, n1.cell rfl, n1.cell rfl⟩ (fun _ => ?_)
  refine wpAnyH_take (i := 0) (oi := _) (v := ?_) rfl (by kernel_rfl) (by kernel_rfl) (by kernel_rfl) (fun _ _ _ h => h) (Or.inl ⟨by kernel_rfl, ?_⟩) ⟨b1.cell rfl, n1.cell rfl, n1.cell rfl⟩ ?_
  rotate_left
  · (rintro w ⟨s0, s1, s2⟩; go_simp; (first | done | rfl))
  try simp only [Act.put, List.getElem_toArray, List.getElem_cons_zero, List.getElem_cons_succ, List.setIfInBounds_toArray, List.set_cons_zero, List.set_cons_succ]
  refine wpAnyH_take (i := 1) (oi := _) (v := ?_) rfl (by kernel_rfl) (by kernel_rfl) (by kernel_rfl) (fun _ _ _ h => h) (Or.inl ⟨by kernel_rfl, ?_⟩) ⟨b1.cell rfl, n1.cell rfl, n1.cell rfl⟩ ?_
  rotate_left
  · (rintro w ⟨s0, s1, s2⟩; go_simp; (first | done | rfl))
  try simp only [Act.put, List.getElem_toArray, List.getElem_cons_zero, List.getElem_cons_succ, List.setIfInBounds_toArray, List.set_cons_zero, List.set_cons_succ]
  refine wpAnyH_take (i := 2) (oi := _) (v := ?_) rfl (by kernel_rfl) (by kernel_rfl) (by kernel_rfl) (fun _ _ _ h => h) (Or.inl ⟨by kernel_rfl, ?_⟩) ⟨b1.cell rfl, n1.cell rfl, n1.cell rfl⟩ ?_
  rotate_left
  · (rintro w ⟨s0, s1, s2⟩; go_simp; (first | done | rfl))
  try simp only [Act.put, List.getElem_toArray, List.getElem_cons_zero, List.getElem_cons_succ, List.setIfInBounds_toArray, List.set_cons_zero, List.set_cons_succ]
  refine wpAnyH_take (i := 3) (oi := _) (v := ?_) rfl (by kernel_rfl) (by kernel_rfl) (by kernel_rfl) (fun _ _ _ h => h) (Or.inl ⟨by kernel_rfl, ?_⟩) ⟨b1.cell rfl, n1.cell rfl, n1.cell rfl⟩ ?_
  rotate_left
  · (rintro w ⟨s0, s1, s2⟩; go_simp; (first | done | rfl))
  try simp only [Act.put, List.getElem_toArray, List.getElem_cons_zero, List.getElem_cons_succ, List.setIfInBounds_toArray, List.set_cons_zero, List.set_cons_succ]
  refine wpAnyH_take (i := 4) (oi := _) (v := ?_) rfl (by kernel_rfl) (by kernel_rfl) (by kernel_rfl) (fun _ _ _ h => h) (Or.inl ⟨by kernel_rfl, ?_⟩) ⟨b1.cell rfl, n1.cell rfl, n1.cell rfl⟩ ?_
  rotate_left
  · (rintro w ⟨s0, s1, s2⟩; go_simp; (first | done | rfl))
  try simp only [Act.put, List.getElem_toArray, List.getElem_cons_zero, List.getElem_cons_succ, List.setIfInBounds_toArray, List.set_cons_zero, List.set_cons_succ]
  refine wpAnyH_take (i := 5) (oi := _) (v := ?_) rfl (by kernel_rfl) (by kernel_rfl) (by kernel_rfl) (fun _ _ _ h => h) (Or.inl ⟨by kernel_rfl, ?_⟩) ⟨b1.cell rfl, n1.cell rfl, n1.cell rfl⟩ ?_
  rotate_left
  · (rintro w ⟨s0, s1, s2⟩; go_simp; (first | done | rfl))
  try simp only [Act.put, List.getElem_toArray, List.getElem_cons_zero, List.getElem_cons_succ, List.setIfInBounds_toArray, List.set_cons_zero, List.set_cons_succ]
  refine wpAnyH_take (i := 6) (oi := _) (v := ?_) rfl (by kernel_rfl) (by kernel_rfl) (by kernel_rfl) (fun _ _ _ h => h) (Or.inl ⟨by kernel_rfl, ?_⟩) ⟨b1.cell rfl, n1.cell rfl, n1.cell rfl⟩ ?_
  rotate_left
  · (rintro w ⟨s0, s1, s2⟩; go_simp; (first | done | rfl))
  try simp only [Act.put, List.getElem_toArray, List.getElem_cons_zero, List.getElem_cons_succ, List.setIfInBounds_toArray, List.set_cons_zero, List.set_cons_succ]
  refine wpAnyH_take (i := 7) (oi := _) (v := ?_) rfl (by kernel_rfl) (by kernel_rfl) (by kernel_rfl) (fun _ _ _ h => h) (Or.inl ⟨by kernel_rfl, ?_⟩) ⟨b1.cell rfl, n1.cell rfl, n1.cell rfl⟩ ?_
  rotate_left
  · (rintro w ⟨s0, s1, s2⟩; go_simp; (first | done | rfl))
  try simp only [Act.put, List.getElem_toArray, List.getElem_cons_zero, List.getElem_cons_succ, List.setIfInBounds_toArray, List.set_cons_zero, List.set_cons_succ]
  refine wpAnyH_take (i := 8) (oi := _) (v := ?_) rfl (by kernel_rfl) (by kernel_rfl) (by kernel_rfl) (fun _ _ _ h => h) (Or.inl ⟨by kernel_rfl, ?_⟩) ⟨b1.cell rfl, n1.cell rfl, n1.cell rfl⟩ ?_
  rotate_left
  · (rintro w ⟨s0, s1, s2⟩; go_simp; (first | done | rfl))
  try simp only [Act.put, List.getElem_toArray, List.getElem_cons_zero, List.getElem_cons_succ, List.setIfInBounds_toArray, List.set_cons_zero, List.set_cons_succ]
  refine wpAnyH_take (i := 9) (oi := _) (v := ?_) rfl (by kernel_rfl) (by kernel_rfl) (by kernel_rfl) (fun _ _ _ h => h) (Or.inl ⟨by kernel_rfl, ?_⟩) ⟨b1.cell rfl, n1.cell rfl, n1.cell rfl⟩ ?_
  rotate_left
  · (rintro w ⟨s0, s1, s2⟩; go_simp; (first | done | rfl))
  try simp only [Act.put, List.getElem_toArray, List.getElem_cons_zero, List.getElem_cons_succ, List.setIfInBounds_toArray, List.set_cons_zero, List.set_cons_succ]
  refine wpAnyH_take (i := 10) (oi := _) (v := ?_) rfl (by kernel_rfl) (by kernel_rfl) (by kernel_rfl) (fun _ _ _ h => h) (Or.inl ⟨by kernel_rfl, ?_⟩) ⟨b1.cell rfl, n1.cell rfl, n1.cell rfl⟩ ?_
  rotate_left
  · (rintro w ⟨s0, s1, s2⟩; go_simp; (first | done | rfl))
  try simp only [Act.put, List.getElem_toArray, List.getElem_cons_zero, List.getElem_cons_succ, List.setIfInBounds_toArray, List.set_cons_zero, List.set_cons_succ]
  refine wpAnyH_take (i := 11) (oi := _) (v := ?_) rfl (by kernel_rfl) (by kernel_rfl) (by kernel_rfl) (fun _ _ _ h => h) (Or.inl ⟨by kernel_rfl, ?_⟩) ⟨b1.cell rfl, n1.cell rfl, n1.cell rfl⟩ ?_
  rotate_left
  · (rintro w ⟨s0, s1, s2⟩; go_simp; (first | done | rfl))
  try simp only [Act.put, List.getElem_toArray, List.getElem_cons_zero, List.getElem_cons_succ, List.setIfInBounds_toArray, List.set_cons_zero, List.set_cons_succ]
  refine wpAnyH_take (i := 12) (oi := _) (v := ?_) rfl (by kernel_rfl) (by kernel_rfl) (by kernel_rfl) (fun _ _ _ h => h) (Or.inl ⟨by kernel_rfl, ?_⟩) ⟨b1.cell rfl, n1.cell rfl, n1.cell rfl⟩ ?_
  rotate_left
  · (rintro w ⟨s0, s1, s2⟩; go_simp; (first | done | rfl))
  try simp only [Act.put, List.getElem_toArray, List.getElem_cons_zero, List.getElem_cons_succ, List.setIfInBounds_toArray, List.set_cons_zero, List.set_cons_succ]
  refine wpAnyH_take (i := 13) (oi := _) (v := ?_) rfl (by kernel_rfl) (by kernel_rfl) (by kernel_rfl) (fun _ _ _ h => h) (Or.inl ⟨by kernel_rfl, ?_⟩) ⟨b1.cell rfl, n1.cell rfl, n1.cell rfl⟩ ?_
  rotate_left
  · (rintro w ⟨s0, s1, s2⟩; go_simp; (first | done | rfl))
  try simp only [Act.put, List.getElem_toArray, List.getElem_cons_zero, List.getElem_cons_succ, List.setIfInBounds_toArray, List.set_cons_zero, List.set_cons_succ]
  refine wpAnyH_take (i := 14) (oi := _) (v := ?_) rfl (by kernel_rfl) (by kernel_rfl) (by kernel_rfl) (fun _ _ _ h => h) (Or.inl ⟨by kernel_rfl, ?_⟩) ⟨b1.cell rfl, n1.cell rfl, n1.cell rfl⟩ ?_
  rotate_left
  · (rintro w ⟨s0, s1, s2⟩; go_simp; (first | done | rfl))
  try simp only [Act.put, List.getElem_toArray, List.getElem_cons_zero, List.getElem_cons_succ, List.setIfInBounds_toArray, List.set_cons_zero, List.set_cons_succ]
  refine wpAnyH_take (i := 15) (oi := _) (v := ?_) rfl (by kernel_rfl) (by kernel_rfl) (by kernel_rfl) (fun _ _ _ h => h) (Or.inl ⟨by kernel_rfl, ?_⟩) ⟨b1.cell rfl, n1.cell rfl, n1.cell rfl⟩ ?_
  rotate_left
  · (rintro w ⟨s0, s1, s2⟩; go_simp; (first | done | rfl))
  try simp only [Act.put, List.getElem_toArray, List.getElem_cons_zero, List.getElem_cons_succ, List.setIfInBounds_toArray, List.set_cons_zero, List.set_cons_succ]
  refine wpAnyH_take (i := 16) (oi := _) (v := ?_) rfl (by kernel_rfl) (by kernel_rfl) (by kernel_rfl) (fun _ _ _ h => h) (Or.inl ⟨by kernel_rfl, ?_⟩) ⟨b1.cell rfl, n1.cell rfl, n1.cell rfl⟩ ?_
  rotate_left
  · (rintro w ⟨s0, s1, s2⟩; go_simp; (first | done | rfl))
  try simp only [Act.put, List.getElem_toArray, List.getElem_cons_zero, List.getElem_cons_succ, List.setIfInBounds_toArray, List.set_cons_zero, List.set_cons_succ]
  refine wpAnyH_take (i := 17) (oi := _) (v := ?_) rfl (by kernel_rfl) (by kernel_rfl) (by kernel_rfl) (fun _ _ _ h => h) (Or.inl ⟨by kernel_rfl, ?_⟩) ⟨b1.cell rfl, n1.cell rfl, n1.cell rfl⟩ ?_
  rotate_left
  · (rintro w ⟨s0, s1, s2⟩; go_simp; (first | done | rfl))
  try simp only [Act.put, List.getElem_toArray, List.getElem_cons_zero, List.getElem_cons_succ, List.setIfInBounds_toArray, List.set_cons_zero, List.set_cons_succ]
  refine wpAnyH_take (i := 18) (oi := _) (v := ?_) rfl (by kernel_rfl) (by kernel_rfl) (by kernel_rfl) (fun _ _ _ h => h) (Or.inl ⟨by kernel_rfl, ?_⟩) ⟨b1.cell rfl, n1.cell rfl, n1.cell rfl⟩ ?_
  rotate_left
  · (rintro w ⟨s0, s1, s2⟩; go_simp; (first | done | rfl))
  try simp only [Act.put, List.getElem_toArray, List.getElem_cons_zero, List.getElem_cons_succ, List.setIfInBounds_toArray, List.set_cons_zero, List.set_cons_succ]
  refine wpAnyH_take (i := 19) (oi := _) (v := ?_) rfl (by kernel_rfl) (by kernel_rfl) (by kernel_rfl) (fun _ _ _ h => h) (Or.inl ⟨by kernel_rfl, ?_⟩) ⟨b1.cell rfl, n1.cell rfl, n1.cell rfl⟩ ?_
  rotate_left
  · (rintro w ⟨s0, s1, s2⟩; go_simp; (first | done | rfl))
  try simp only [Act.put, List.getElem_toArray, List.getElem_cons_zero, List.getElem_cons_succ, List.setIfInBounds_toArray, List.set_cons_zero, List.set_cons_succ]
  refine wpAnyH_take (i := 20) (oi := _) (v := ?_) rfl (by kernel_rfl) (by kernel_rfl) (by kernel_rfl) (fun _ _ _ h => h) (Or.inl ⟨by kernel_rfl, ?_⟩) ⟨b1.cell rfl, n1.cell rfl, n1.cell rfl⟩ ?_
  rotate_left
  · (rintro w ⟨s0, s1, s2⟩; go_simp; (first | done | rfl))
  try simp only [Act.put, List.getElem_toArray, List.getElem_cons_zero, List.getElem_cons_succ, List.setIfInBounds_toArray, List.set_cons_zero, List.set_cons_succ]
  refine wpAnyH_take (i := 21) (oi := _) (v := ?_) rfl (by kernel_rfl) (by kernel_rfl) (by kernel_rfl) (fun _ _ _ h => h) (Or.inl ⟨by kernel_rfl, ?_⟩) ⟨b1.cell rfl, n1.cell rfl, n1.cell rfl⟩ ?_
  rotate_left
  · (rintro w ⟨s0, s1, s2⟩; go_simp; (first | done | rfl))
  try simp only [Act.put, List.getElem_toArray, List.getElem_cons_zero, List.getElem_cons_succ, List.setIfInBounds_toArray, List.set_cons_zero, List.set_cons_succ]
  refine wpAnyH_take (i := 22) (oi := _) (v := ?_) rfl (by kernel_rfl) (by kernel_rfl) (by kernel_rfl) (fun _ _ _ h => h) (Or.inl ⟨by kernel_rfl, ?_⟩) ⟨b1.cell rfl, n1.cell rfl, n1.cell rfl⟩ ?_
  rotate_left
  · (rintro w ⟨s0, s1, s2⟩; go_simp; (first | done | rfl))
  try simp only [Act.put, List.getElem_toArray, List.getElem_cons_zero, List.getElem_cons_succ, List.setIfInBounds_toArray, List.set_cons_zero, List.set_cons_succ]
  refine wpAnyH_take (i := 23) (oi := _) (v := ?_) rfl (by kernel_rfl) (by kernel_rfl) (by kernel_rfl) (fun _ _ _ h => h) (Or.inl ⟨by kernel_rfl, ?_⟩) ⟨b1.cell rfl, n1.cell rfl, n1.cell rfl⟩ ?_
  rotate_left
  · (rintro w ⟨s0, s1, s2⟩; go_simp; (first | done | rfl))
  try simp only [Act.put, List.getElem_toArray, List.getElem_cons_zero, List.getElem_cons_succ, List.setIfInBounds_toArray, List.set_cons_zero, List.set_cons_succ]
  refine wpAnyH_take (i := 24) (oi := _) (v := ?_) rfl (by kernel_rfl) (by kernel_rfl) (by kernel_rfl) (fun _ _ _ h => h) (Or.inl ⟨by kernel_rfl, ?_⟩) ⟨b1.cell rfl, n1.cell rfl, n1.cell rfl⟩ ?_
  rotate_left
  · (rintro w ⟨s0, s1, s2⟩; go_simp; (first | done | rfl))
  try simp only [Act.put, List.getElem_toArray, List.getElem_cons_zero, List.getElem_cons_succ, List.setIfInBounds_toArray, List.set_cons_zero, List.set_cons_succ]
  refine wpAnyH_done (by kernel_rfl) ?_ _
  refine NoPanic.normal ?_
  go_wp2_with fail
  refine wp_region_noPanic ?_
  refine wp_region_held_drew (S := (fun w' => w'.cell? ⟨g, 0, none⟩ = some (.pointer (some ⟨bl, 0, none⟩)) ∧ w'.cell? ⟨bl, 0, none⟩ = some (.int .i64 kx.off) ∧ w'.cell? ⟨bl, 1, none⟩ = some (.int .i64 kx.len))) (by kernel_rfl) ⟨b1.cell rfl, n1.cell rfl, n1.cell rfl⟩ (fun _ => ?_)
  refine wpAnyH_take (i := 0) (oi := _) (v := ?_) rfl (by kernel_rfl) (by kernel_rfl) (by kernel_rfl) (fun _ _ _ h => h) (Or.inl ⟨by kernel_rfl, ?_⟩) ⟨b1.cell rfl, n1.cell rfl, n1.cell rfl⟩ ?_
  rotate_left
  · (rintro w ⟨s0, s1, s2⟩; go_simp; (first | done | rfl))
  try simp only [Act.put, List.getElem_toArray, List.getElem_cons_zero, List.getElem_cons_succ, List.setIfInBounds_toArray, List.set_cons_zero, List.set_cons_succ]
  refine wpAnyH_take (i := 1) (oi := _) (v := ?_) rfl (by kernel_rfl) (by kernel_rfl) (by kernel_rfl) (fun _ _ _ h => h) (Or.inl ⟨by kernel_rfl, ?_⟩) ⟨b1.cell rfl, n1.cell rfl, n1.cell rfl⟩ ?_
  rotate_left
  · (rintro w ⟨s0, s1, s2⟩; go_simp; (first | done | rfl))
  try simp only [Act.put, List.getElem_toArray, List.getElem_cons_zero, List.getElem_cons_succ, List.setIfInBounds_toArray, List.set_cons_zero, List.set_cons_succ]
  refine wpAnyH_take (i := 2) (oi := _) (v := ?_) rfl (by kernel_rfl) (by kernel_rfl) (by kernel_rfl) (fun _ _ _ h => h) (Or.inl ⟨by kernel_rfl, ?_⟩) ⟨b1.cell rfl, n1.cell rfl, n1.cell rfl⟩ ?_
  rotate_left
  · (rintro w ⟨s0, s1, s2⟩; go_simp; (first | done | rfl))
  try simp only [Act.put, List.getElem_toArray, List.getElem_cons_zero, List.getElem_cons_succ, List.setIfInBounds_toArray, List.set_cons_zero, List.set_cons_succ]
  refine wpAnyH_take (i := 3) (oi := _) (v := ?_) rfl (by kernel_rfl) (by kernel_rfl) (by kernel_rfl) (fun _ _ _ h => h) (Or.inl ⟨by kernel_rfl, ?_⟩) ⟨b1.cell rfl, n1.cell rfl, n1.cell rfl⟩ ?_
  rotate_left
  · (rintro w ⟨s0, s1, s2⟩; go_simp; (first | done | rfl))
  try simp only [Act.put, List.getElem_toArray, List.getElem_cons_zero, List.getElem_cons_succ, List.setIfInBounds_toArray, List.set_cons_zero, List.set_cons_succ]
  refine wpAnyH_take (i := 4) (oi := _) (v := ?_) rfl (by kernel_rfl) (by kernel_rfl) (by kernel_rfl) (fun _ _ _ h => h) (Or.inl ⟨by kernel_rfl, ?_⟩) ⟨b1.cell rfl, n1.cell rfl, n1.cell rfl⟩ ?_
  rotate_left
  · (rintro w ⟨s0, s1, s2⟩; go_simp; (first | done | rfl))
  try simp only [Act.put, List.getElem_toArray, List.getElem_cons_zero, List.getElem_cons_succ, List.setIfInBounds_toArray, List.set_cons_zero, List.set_cons_succ]
  refine wpAnyH_take (i := 5) (oi := _) (v := ?_) rfl (by kernel_rfl) (by kernel_rfl) (by kernel_rfl) (fun _ _ _ h => h) (Or.inl ⟨by kernel_rfl, ?_⟩) ⟨b1.cell rfl, n1.cell rfl, n1.cell rfl⟩ ?_
  rotate_left
  · (rintro w ⟨s0, s1, s2⟩; go_simp; (first | done | rfl))
  try simp only [Act.put, List.getElem_toArray, List.getElem_cons_zero, List.getElem_cons_succ, List.setIfInBounds_toArray, List.set_cons_zero, List.set_cons_succ]
  refine wpAnyH_take (i := 6) (oi := _) (v := ?_) rfl (by kernel_rfl) (by kernel_rfl) (by kernel_rfl) (fun _ _ _ h => h) (Or.inl ⟨by kernel_rfl, ?_⟩) ⟨b1.cell rfl, n1.cell rfl, n1.cell rfl⟩ ?_
  rotate_left
  · (rintro w ⟨s0, s1, s2⟩; go_simp; (first | done | rfl))
  try simp only [Act.put, List.getElem_toArray, List.getElem_cons_zero, List.getElem_cons_succ, List.setIfInBounds_toArray, List.set_cons_zero, List.set_cons_succ]
  refine wpAnyH_take (i := 7) (oi := _) (v := ?_) rfl (by kernel_rfl) (by kernel_rfl) (by kernel_rfl) (fun _ _ _ h => h) (Or.inl ⟨by kernel_rfl, ?_⟩) ⟨b1.cell rfl, n1.cell rfl, n1.cell rfl⟩ ?_
  rotate_left
  · (rintro w ⟨s0, s1, s2⟩; go_simp; (first | done | rfl))
  try simp only [Act.put, List.getElem_toArray, List.getElem_cons_zero, List.getElem_cons_succ, List.setIfInBounds_toArray, List.set_cons_zero, List.set_cons_succ]
  refine wpAnyH_take (i := 8) (oi := _) (v := ?_) rfl (by kernel_rfl) (by kernel_rfl) (by kernel_rfl) (fun _ _ _ h => h) (Or.inl ⟨by kernel_rfl, ?_⟩) ⟨b1.cell rfl, n1.cell rfl, n1.cell rfl⟩ ?_
  rotate_left
  · (rintro w ⟨s0, s1, s2⟩; go_simp; (first | done | rfl))
  try simp only [Act.put, List.getElem_toArray, List.getElem_cons_zero, List.getElem_cons_succ, List.setIfInBounds_toArray, List.set_cons_zero, List.set_cons_succ]
  refine wpAnyH_take (i := 9) (oi := _) (v := ?_) rfl (by kernel_rfl) (by kernel_rfl) (by kernel_rfl) (fun _ _ _ h => h) (Or.inl ⟨by kernel_rfl, ?_⟩) ⟨b1.cell rfl, n1.cell rfl, n1.cell rfl⟩ ?_
  rotate_left
  · (rintro w ⟨s0, s1, s2⟩; go_simp; (first | done | rfl))
  try simp only [Act.put, List.getElem_toArray, List.getElem_cons_zero, List.getElem_cons_succ, List.setIfInBounds_toArray, List.set_cons_zero, List.set_cons_succ]
  refine wpAnyH_take (i := 10) (oi := _) (v := ?_) rfl (by kernel_rfl) (by kernel_rfl) (by kernel_rfl) (fun _ _ _ h => h) (Or.inl ⟨by kernel_rfl, ?_⟩) ⟨b1.cell rfl, n1.cell rfl, n1.cell rfl⟩ ?_
  rotate_left
  · (rintro w ⟨s0, s1, s2⟩; go_simp; (first | done | rfl))
  try simp only [Act.put, List.getElem_toArray, List.getElem_cons_zero, List.getElem_cons_succ, List.setIfInBounds_toArray, List.set_cons_zero, List.set_cons_succ]
  refine wpAnyH_take (i := 11) (oi := _) (v := ?_) rfl (by kernel_rfl) (by kernel_rfl) (by kernel_rfl) (fun _ _ _ h => h) (Or.inl ⟨by kernel_rfl, ?_⟩) ⟨b1.cell rfl, n1.cell rfl, n1.cell rfl⟩ ?_
  rotate_left
  · (rintro w ⟨s0, s1, s2⟩; go_simp; (first | done | rfl))
  try simp only [Act.put, List.getElem_toArray, List.getElem_cons_zero, List.getElem_cons_succ, List.setIfInBounds_toArray, List.set_cons_zero, List.set_cons_succ]
  refine wpAnyH_take (i := 12) (oi := _) (v := ?_) rfl (by kernel_rfl) (by kernel_rfl) (by kernel_rfl) (fun _ _ _ h => h) (Or.inl ⟨by kernel_rfl, ?_⟩) ⟨b1.cell rfl, n1.cell rfl, n1.cell rfl⟩ ?_
  rotate_left
  · (rintro w ⟨s0, s1, s2⟩; go_simp; (first | done | rfl))
  try simp only [Act.put, List.getElem_toArray, List.getElem_cons_zero, List.getElem_cons_succ, List.setIfInBounds_toArray, List.set_cons_zero, List.set_cons_succ]
  refine wpAnyH_take (i := 13) (oi := _) (v := ?_) rfl (by kernel_rfl) (by kernel_rfl) (by kernel_rfl) (fun _ _ _ h => h) (Or.inl ⟨by kernel_rfl, ?_⟩) ⟨b1.cell rfl, n1.cell rfl, n1.cell rfl⟩ ?_
  rotate_left
  · (rintro w ⟨s0, s1, s2⟩; go_simp; (first | done | rfl))
  try simp only [Act.put, List.getElem_toArray, List.getElem_cons_zero, List.getElem_cons_succ, List.setIfInBounds_toArray, List.set_cons_zero, List.set_cons_succ]
  refine wpAnyH_take (i := 14) (oi := _) (v := ?_) rfl (by kernel_rfl) (by kernel_rfl) (by kernel_rfl) (fun _ _ _ h => h) (Or.inl ⟨by kernel_rfl, ?_⟩) ⟨b1.cell rfl, n1.cell rfl, n1.cell rfl⟩ ?_
  rotate_left
  · (rintro w ⟨s0, s1, s2⟩; go_simp; (first | done | rfl))
  try simp only [Act.put, List.getElem_toArray, List.getElem_cons_zero, List.getElem_cons_succ, List.setIfInBounds_toArray, List.set_cons_zero, List.set_cons_succ]
  refine wpAnyH_done (by kernel_rfl) ?_ _
  refine NoPanic.normal ?_
  go_wp2
  go_ret
  exact ⟨_, _, rfl, o1, ha1.drewR.drewR⟩
end
end Go.Proofs.Ytfcfffilfmbpeaa

set_option linter.all false
namespace Go.Proofs.Ytfcfffilfmbpeaa
open Go.RowKit

theorem near_ (S : Nat → Prop) (b e : Int) (fb : I64 b) (fe : I64 e) : ∀ (t : Tr) (lo : Int), listFrom lo t.list = true → Nears S t b e
  | .nil, _, _ => near_nil S b e
  | .node nw L kx R, q, hl => by
    obtain ⟨l1, l2, l3, l4, l5⟩ := listFrom_mid (show listFrom q (L.list ++ kx :: R.list) = true from hl)
    have hxl := may_len l3
    have ihL := near_ S b e fb fe L _ l1
    have ihR := near_ S b e fb fe R _ l5
    have hlL := nearT_len (b := b) (e := e) l1
    intro a w B v m acc h ho hB hs
    have hN : nearT (.node nw L kx R) b e = (if b ≤ kx.off then nearT L b e else []) ++ ((if b ≤ kx.off + kx.len ∧ kx.off ≤ e then [kx] else []) ++ (if kx.off + kx.len ≤ e then nearT R b e else [])) := rfl
    by_cases hna : b ≤ kx.off + kx.len
    · by_cases hnb : kx.off ≤ e
      · by_cases c1 : b ≤ kx.off
        · by_cases c3 : kx.off + kx.len ≤ e
          · rw [if_pos c1, if_pos ⟨hna, hnb⟩, if_pos c3] at hN
            exact (near_p1 S nw L R kx b e fb fe l3 c1 hna hnb c3 hlL ihL ihR a w B v m acc h ho hB hs).mono fun _ _ ⟨v', m', he, ho', ha⟩ => ⟨v', m', he, (by rw [hN]; simpa only [List.append_assoc, List.nil_append, List.append_nil] using ho'), ha⟩
          · rw [if_pos c1, if_pos ⟨hna, hnb⟩, if_neg c3] at hN
            exact (near_p2 S nw L R kx b e fb fe l3 c1 hna hnb c3 hlL ihL ihR a w B v m acc h ho hB hs).mono fun _ _ ⟨v', m', he, ho', ha⟩ => ⟨v', m', he, (by rw [hN]; simpa only [List.append_assoc, List.nil_append, List.append_nil] using ho'), ha⟩
        · by_cases c3 : kx.off + kx.len ≤ e
          · rw [if_neg c1, if_pos ⟨hna, hnb⟩, if_pos c3] at hN
            exact (near_p3 S nw L R kx b e fb fe l3 c1 hna hnb c3 hlL ihL ihR a w B v m acc h ho hB hs).mono fun _ _ ⟨v', m', he, ho', ha⟩ => ⟨v', m', he, (by rw [hN]; simpa only [List.append_assoc, List.nil_append, List.append_nil] using ho'), ha⟩
          · rw [if_neg c1, if_pos ⟨hna, hnb⟩, if_neg c3] at hN
            exact (near_p4 S nw L R kx b e fb fe l3 c1 hna hnb c3 hlL ihL ihR a w B v m acc h ho hB hs).mono fun _ _ ⟨v', m', he, ho', ha⟩ => ⟨v', m', he, (by rw [hN]; simpa only [List.append_assoc, List.nil_append, List.append_nil] using ho'), ha⟩
      · have c3 : ¬ kx.off + kx.len ≤ e := by omega
        by_cases c1 : b ≤ kx.off
        · rw [if_pos c1, if_neg (fun h => hnb h.2), if_neg c3] at hN
          exact (near_p7 S nw L R kx b e fb fe l3 c1 hna hnb c3 hlL ihL ihR a w B v m acc h ho hB hs).mono fun _ _ ⟨v', m', he, ho', ha⟩ => ⟨v', m', he, (by rw [hN]; simpa only [List.append_assoc, List.nil_append, List.append_nil] using ho'), ha⟩
        · rw [if_neg c1, if_neg (fun h => hnb h.2), if_neg c3] at hN
          exact (near_p8 S nw L R kx b e fb fe l3 c1 hna hnb c3 hlL ihL ihR a w B v m acc h ho hB hs).mono fun _ _ ⟨v', m', he, ho', ha⟩ => ⟨v', m', he, (by rw [hN]; simpa only [List.append_assoc, List.nil_append, List.append_nil] using ho'), ha⟩
    · have c1 : ¬ b ≤ kx.off := by omega
      by_cases c3 : kx.off + kx.len ≤ e
      · rw [if_neg c1, if_neg (fun h => hna h.1), if_pos c3] at hN
        exact (near_p5 S nw L R kx b e fb fe l3 c1 hna c3 hlL ihL ihR a w B v m acc h ho hB hs).mono fun _ _ ⟨v', m', he, ho', ha⟩ => ⟨v', m', he, (by rw [hN]; simpa only [List.append_assoc, List.nil_append, List.append_nil] using ho'), ha⟩
      · rw [if_neg c1, if_neg (fun h => hna h.1), if_neg c3] at hN
        exact (near_p6 S nw L R kx b e fb fe l3 c1 hna c3 hlL ihL ihR a w B v m acc h ho hB hs).mono fun _ _ ⟨v', m', he, ho', ha⟩ => ⟨v', m', he, (by rw [hN]; simpa only [List.append_assoc, List.nil_append, List.append_nil] using ho'), ha⟩
end Go.Proofs.Ytfcfffilfmbpeaa
