/- Layer 7: a forest's methods that only read: Trees, Deep, Size, Fresh, List, Part, At. -/
import Derived.Test.YtiehhmchokbafaaCowV
set_option linter.all false
namespace Go.Proofs.Ytiehhmchokbafaa
open Go.RowKit

/-- The tree of a number. -/
def rootAt (ls : List Root) (r : Int) : Option Root := if 0 ≤ r ∧ r < ls.length then ls[r.toNat]? else none
theorem rootAt_nat (ls : List Root) (k : Nat) : rootAt ls (k : Int) = ls[k]? := by
  unfold rootAt
  by_cases h : k < ls.length
  · rw [if_pos (by omega)]; rfl
  · rw [if_neg (by omega), List.getElem?_eq_none (by omega)]
theorem rootAt_some {ls : List Root} {r : Int} {q : Root} (h : rootAt ls r = some q) : ∃ k : Nat, r = (k : Int) ∧ ls[k]? = some q := by
  unfold rootAt at h
  split at h
  · exact ⟨r.toNat, by omega, h⟩
  · cases h
theorem rootAt_none {ls : List Root} {r : Int} (h : rootAt ls r = none) : ¬ (0 ≤ r ∧ r < ls.length) := by
  intro hr
  unfold rootAt at h
  rw [if_pos hr, List.getElem?_eq_none_iff] at h
  omega
/-- What tree answers, of a forest. -/
def treeE (q : Option Root) : Int := match q with | some _ => 0 | none => 9
def treeA (q : Option Root) : Option Addr := match q with | some q => q.1 | none => none
def treeT (q : Option Root) : Tr := match q with | some q => q.2 | none => .nil
section
variable (w : World) (B f : Nat) (ls : List Root)
theorem tree_ (h : Fo w B f ls) (r : Int) : Calls Try.prog 33 #[.pointer (some ⟨f, 0, none⟩), .int .i64 r] w fun e w' => e = .returned (.tuple #[.agg #[.pointer (treeA (rootAt ls r))], .int .i64 (treeE (rootAt ls r))]) ∧ Below w.heap.size w w' := by
  cases hr : rootAt ls r with
  | none => exact tree_none w B f ls h r (rootAt_none hr)
  | some q =>
    obtain ⟨k, rfl, hk⟩ := rootAt_some hr
    exact tree_ok w B f ls h k q hk
theorem Fo.root {w : World} {B f : Nat} {ls : List Root} (h : Fo w B f ls) (r : Int) : Tree w All (treeA (rootAt ls r)) (treeT (rootAt ls r)) ∧ (treeT (rootAt ls r)).bal ∧ rightB (treeT (rootAt ls r)).list = true := by
  cases hr : rootAt ls r with
  | none => exact ⟨rfl, trivial, rfl⟩
  | some q =>
    obtain ⟨k, rfl, hk⟩ := rootAt_some hr
    exact h.trees q (List.mem_of_getElem? hk)

set_option maxRecDepth 100000 in
set_option maxHeartbeats 1000000 in
theorem deepF_ (h : Fo w B f ls) (r : Int) : Calls Try.prog 25 #[.pointer (some ⟨f, 0, none⟩), .int .i64 r] w fun e w' => e = .returned (.int .i64 ((treeT (rootAt ls r)).deep : Int)) ∧ Below w.heap.size w w' := by
  obtain ⟨hT, -, -⟩ := h.root r
  generalize hq : rootAt ls r = q at *
  go_enter Try.func25, Try.ntmps25
  go_wp2_with fail
  refine (tree_ w B f ls h r).mono ?_
  rw [hq]
  rintro e w2 ⟨rfl, hb2⟩
  clear hq
  have hb3 := hb2.alloc hb2.size (.cells #[.pointer (treeA q)] 70)
  go_wp2_with fail
  refine (deep_ _ All (treeT q) (treeA q) (hT.below hb3)).mono ?_
  rintro e w4 ⟨rfl, hb4⟩
  go_wp2
  go_ret
  exact ⟨rfl, hb3.trans (hb4.mono hb3.size)⟩
set_option maxRecDepth 100000 in
set_option maxHeartbeats 1000000 in
theorem sizeF_ (h : Fo w B f ls) (r : Int) : Calls Try.prog 22 #[.pointer (some ⟨f, 0, none⟩), .int .i64 r] w fun e w' => e = .returned (.int .i64 ((treeT (rootAt ls r)).size : Int)) ∧ Below w.heap.size w w' := by
  obtain ⟨hT, -, -⟩ := h.root r
  generalize hq : rootAt ls r = q at *
  go_enter Try.func22, Try.ntmps22
  go_wp2_with fail
  refine (tree_ w B f ls h r).mono ?_
  rw [hq]
  rintro e w2 ⟨rfl, hb2⟩
  clear hq
  have hb3 := hb2.alloc hb2.size (.cells #[.pointer (treeA q)] 70)
  go_wp2_with fail
  refine (size_ _ All (treeT q) (treeA q) (hT.below hb3)).mono ?_
  rintro e w4 ⟨rfl, hb4⟩
  go_wp2
  go_ret
  exact ⟨rfl, hb3.trans (hb4.mono hb3.size)⟩
set_option maxRecDepth 100000 in
set_option maxHeartbeats 1000000 in
theorem treesF_ (h : Fo w B f ls) : Calls Try.prog 15 #[.pointer (some ⟨f, 0, none⟩)] w fun e w' => e = .returned (.int .i64 (ls.length : Int)) ∧ w = w' := by
  obtain ⟨b, c, c0, c1, hcc, -⟩ := h.cells
  go_enter Try.func15, Try.ntmps15
  go_wp2_with fail
  refine (made_ w B f ls h).mono ?_
  rintro e w2 ⟨rfl, rfl⟩
  go_wp2
  go_ret
  exact ⟨rfl, rfl⟩
set_option maxRecDepth 100000 in
set_option maxHeartbeats 1000000 in
/-- Fresh, of a tree that is told of as t', S telling of what is the old one's. -/
theorem freshF_ (h : Fo w B f ls) (r1 r2 : Int) (q1 : Root) (hq1 : rootAt ls r1 = some q1) (S : Nat → Prop) (t' : Tr) (hS : ∀ b, S b → Nd w b q1.1 q1.2) (hT : Tree w S (treeA (rootAt ls r2)) t') (hz : t'.size ≤ 1000000) :
    Calls Try.prog 27 #[.pointer (some ⟨f, 0, none⟩), .int .i64 r1, .int .i64 r2] w (FreshAns w t' q1.2) := by
  obtain ⟨hT1, -, hr1⟩ := h.root r1
  rw [hq1] at hT1 hr1
  have hl1 := (right_is.1 hr1).1
  obtain ⟨a1, t1⟩ := q1
  simp only [treeA, treeT] at hT1 hl1 hS
  have hq1t := tree_ w B f ls h r1
  rw [hq1] at hq1t
  simp only [treeA, treeE] at hq1t
  clear hr1 hq1
  generalize hq : rootAt ls r2 = q at *
  go_enter Try.func27, Try.ntmps27
  go_wp2_with fail
  refine hq1t.mono ?_
  rintro e w2 ⟨rfl, hb2⟩
  have hb3 := hb2.alloc hb2.size (.cells #[.pointer a1] 70)
  clear hq1t
  go_wp2_with fail
  refine (tree_ _ B f ls (h.below hb3) r2).mono ?_
  rw [hq]
  rintro e w4 ⟨rfl, hb4⟩
  have hb14 := hb3.trans (hb4.mono hb3.size)
  have k1 := (((Blk.new w2 70 #[.pointer a1] rfl).keep hb4).alloc (.cells #[.pointer (treeA q)] 70)).cell (j := 0) (u := .pointer a1) rfl
  have hb15 := hb14.alloc hb14.size (.cells #[.pointer (treeA q)] 70)
  go_wp2_with fail
  refine (fresh_ S All w t1 a1 hT1 hl1 hS t' (treeA q) hT hz _ hb15).mono ?_
  rintro e w6 ⟨k, rfl, hk1, hk2, hb6⟩
  go_wp2
  go_ret
  exact ⟨k, rfl, hk1, hk2, hb15.trans (hb6.mono hb15.size)⟩
/-- A list that was answered, and an error. -/
theorem gets {w w' : World} {v : Value} {m : Nat} {l : List Ext} {e : Int} (h : Eo w' w.heap.size v m l) (hm : mays l) (hb : Below w.heap.size w w') : Ans w w' (.returned (.tuple #[v, .int .i64 e])) e l := by
  obtain ⟨A, c, rfl, g⟩ := got_of h hm
  exact ⟨A, m, c, rfl, g, hb⟩
set_option maxRecDepth 100000 in
set_option maxHeartbeats 1000000 in
theorem listF_ (h : Fo w B f ls) (r : Int) (q : Root) (hq : rootAt ls r = some q) : Calls Try.prog 16 #[.pointer (some ⟨f, 0, none⟩), .int .i64 r] w fun e w' => Ans w w' e 0 q.2.list := by
  obtain ⟨hT, -, hr⟩ := h.root r
  have ht := tree_ w B f ls h r
  rw [hq] at hT hr ht
  obtain ⟨a, t⟩ := q
  simp only [treeA, treeT, treeE] at hT hr ht
  have hl := (right_is.1 hr).1
  have hz := size_small hr
  have HN := Lib.hid (show nearT t 0 1024 = t.list by rw [nearT_is hl, near_all hr])
  clear hq
  go_enter Try.func16, Try.ntmps16
  go_wp2_with fail
  refine ht.mono ?_
  rintro e w2 ⟨rfl, hb2⟩
  have hb3 := hb2.alloc hb2.size (.cells #[.pointer a] 70)
  clear ht
  go_wp2_with fail
  refine (near_ All 0 1024 (by unfold I64; omega) (by unfold I64; omega) t 0 hl a _ w.heap.size (.slice none 0 0) 0 [] (hT.below hb3) (eo_nil _ _) hb3.size (by omega)).mono ?_
  rintro e w4 ⟨v4, m4, rfl, ho4, ha4⟩
  have hb4 := hb3.trans (ha4.below hb3.size (by intro k hk; cases hk))
  rw [List.nil_append, HN.out] at ho4
  have hans := gets (e := 0) ho4 (mays_right hr) hb4
  obtain ⟨A4, c4, rfl, -, -, -⟩ := own_form ho4
  clear ho4 ha4 hb4
  go_wp2
  go_ret2
  exact hans
set_option maxRecDepth 100000 in
set_option maxHeartbeats 1000000 in
theorem listF_no (h : Fo w B f ls) (r : Int) (hq : rootAt ls r = none) : Calls Try.prog 16 #[.pointer (some ⟨f, 0, none⟩), .int .i64 r] w fun e w' => Ans w w' e 9 [] := by
  have ht := tree_ w B f ls h r
  rw [hq] at ht
  simp only [treeA, treeE] at ht
  clear hq
  go_enter Try.func16, Try.ntmps16
  go_wp2_with fail
  refine ht.mono ?_
  rintro e w2 ⟨rfl, hb2⟩
  have hb3 := hb2.alloc hb2.size (.cells #[.pointer none] 70)
  have hans := gets (w := w) (e := 9) (eo_nil _ w.heap.size) mays_nil hb3
  clear ht
  go_wp2
  go_ret2
  exact hans
set_option maxRecDepth 100000 in
set_option maxHeartbeats 1000000 in
theorem partF_no (h : Fo w B f ls) (r o n : Int) (hq : rootAt ls r = none) : Calls Try.prog 17 #[.pointer (some ⟨f, 0, none⟩), .int .i64 r, .int .i64 o, .int .i64 n] w fun e w' => Ans w w' e 9 [] := by
  have ht := tree_ w B f ls h r
  rw [hq] at ht
  simp only [treeA, treeE] at ht
  clear hq
  go_enter Try.func17, Try.ntmps17
  go_wp2_with fail
  refine ht.mono ?_
  rintro e w2 ⟨rfl, hb2⟩
  have hb3 := hb2.alloc hb2.size (.cells #[.pointer none] 70)
  have hans := gets (w := w) (e := 9) (eo_nil _ w.heap.size) mays_nil hb3
  clear ht
  go_wp2
  go_ret2
  exact hans
theorem right_nil : rightB [] = true := rfl
set_option maxRecDepth 100000 in
set_option maxHeartbeats 1000000 in
theorem partF_ (h : Fo w B f ls) (r o n : Int) (fo : I64 o) (fn : I64 n) (q : Root) (hq : rootAt ls r = some q) : Calls Try.prog 17 #[.pointer (some ⟨f, 0, none⟩), .int .i64 r, .int .i64 o, .int .i64 n] w fun e w' => Ans w w' e (errOf (rangeB o n)) (ifL (rangeB o n) (partL q.2.list o (o + n))) := by
  obtain ⟨hT, -, hr⟩ := h.root r
  have ht := tree_ w B f ls h r
  rw [hq] at hT hr ht
  obtain ⟨a, t⟩ := q
  simp only [treeA, treeT, treeE] at hT hr ht
  have hl := (right_is.1 hr).1
  have hz := size_small hr
  clear hq
  cases hrg : rangeB o n with
  | false =>
    go_enter Try.func17, Try.ntmps17
    go_wp2_with fail
    refine ht.mono ?_
    rintro e w2 ⟨rfl, hb2⟩
    have hb3 := hb2.alloc hb2.size (.cells #[.pointer a] 70)
    clear ht
    go_wp2_with fail
    refine (partU _ none 0 0 [] Es.nil (by omega) o n fo fn).mono ?_
    rw [right_nil, hrg]
    rintro e w4 ⟨A4, m4, c4, rfl, g4, hb4⟩
    have hb5 := hb3.trans (hb4.mono hb3.size)
    have hans := gets (w := w) (e := 1) (eo_nil w4 w.heap.size) mays_nil hb5
    have e1 : errOf (true && false) = 1 := rfl
    rw [e1]
    go_wp2
    go_ret2
    exact hans
  | true =>
    have hrb := range_is.1 hrg
    have hwo : IntKind.i64.wrap (o + n) = o + n := by rw [IntKind.wrap_i64]; omega
    have hfe : I64 (o + n) := by unfold I64; omega
    have hN := nearT_is (b := o) (e := o + n) hl
    have hNr := near_right (b := o) (e := o + n) hr (by omega)
    have HP := Lib.hid (part_near (b := o) (e := o + n) hr (by omega))
    have hNl := nearT_len (t := t) (b := o) (e := o + n) hl
    have HN := Lib.hid hN
    clear hN
    go_enter Try.func17, Try.ntmps17
    go_wp2_with fail
    refine ht.mono ?_
    rintro e w2 ⟨rfl, hb2⟩
    have hnew := Blk.new w2 70 #[.pointer a] rfl
    have hb3 := hb2.alloc hb2.size (.cells #[.pointer a] 70)
    clear ht
    go_wp2_with fail
    refine (partU _ none 0 0 [] Es.nil (by omega) o n fo fn).mono ?_
    rw [right_nil, hrg]
    rintro e w4 ⟨A4, m4, c4, rfl, -, hb4⟩
    have hb5 := hb3.trans (hb4.mono hb3.size)
    have k5 := (hnew.keep hb4).cell (j := 0) (u := .pointer a) rfl
    have e1 : errOf (true && true) = 0 := rfl
    rw [e1]
    clear hnew
    go_wp2_with fail
    refine (near_ All o (o + n) fo hfe t 0 hl a _ w.heap.size (.slice none 0 0) 0 [] (hT.below hb5) (eo_nil _ _) hb5.size (by omega)).mono ?_
    rintro e w6 ⟨v6, m6, rfl, ho6, ha6⟩
    have hb7 := hb5.trans (ha6.below hb5.size (by intro k hk; cases hk))
    rw [List.nil_append, HN.out] at ho6
    have hm6 := eo_len ho6
    obtain ⟨A6, c6, rfl, -, -, -⟩ := own_form ho6
    have hE := eo_es ho6 (mays_fit (mays_right hNr))
    have hm64 : m6 ≤ 9223372036854775807 := by rw [hm6, ← HN.out]; omega
    clear hm6 ho6
    go_wp2_with fail
    refine (partU _ A6 m6 c6 _ hE hm64 o n fo fn).mono ?_
    rw [hNr, hrg]
    rintro e w8 ⟨A8, m8, c8, rfl, g8, hb8⟩
    have hb9 := hb7.trans (hb8.mono hb7.size)
    have hs7 := hb7.size
    go_wp2
    go_ret2
    refine ⟨A8, m8, c8, rfl, ?_, hb9⟩
    have g9 := g8.mono hs7
    rw [show ifL (true && true) (partL (t.list.filter (isNear o (o + n))) o (o + n)) = ifL true (partL t.list o (o + n)) by rw [HP.out]; rfl] at g9
    exact g9
end
end Go.Proofs.Ytiehhmchokbafaa
