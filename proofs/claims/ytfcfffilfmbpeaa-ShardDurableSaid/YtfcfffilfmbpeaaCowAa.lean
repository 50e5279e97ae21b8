/- Layer 7: a forest New, closures; change. -/
import Derived.Test.YtfcfffilfmbpeaaCowW
import Derived.Test.YtfcfffilfmbpeaaCowI
set_option linter.all false
namespace Go.Proofs.Ytfcfffilfmbpeaa
open Go.RowKit

set_option maxRecDepth 100000 in
set_option maxHeartbeats 1000000 in
theorem newF_ (w : World) : Calls Try.prog 42 #[] w fun e w' => ∃ f, e = .returned (.pointer (some ⟨f, 0, none⟩)) ∧ Fo w' w.heap.size f [(none, .nil)] ∧ Below w.heap.size w w' := by
  have hr : Blk ((w.alloc (.cells #[.pointer none] 103)).alloc (.cells #[.pointer (some ⟨w.heap.size + 1, 0, none⟩), .slice (some ⟨w.heap.size, 0, none⟩) 1 1] 106)) w.heap.size 103 #[.pointer none] := (Blk.new w _ _ rfl).alloc _
  have hf : Blk ((w.alloc (.cells #[.pointer none] 103)).alloc (.cells #[.pointer (some ⟨w.heap.size + 1, 0, none⟩), .slice (some ⟨w.heap.size, 0, none⟩) 1 1] 106)) (w.heap.size + 1) 106 #[.pointer (some ⟨w.heap.size + 1, 0, none⟩), .slice (some ⟨w.heap.size, 0, none⟩) 1 1] := Blk.new _ _ _ (by simp)
  have hB : Below w.heap.size w ((w.alloc (.cells #[.pointer none] 103)).alloc (.cells #[.pointer (some ⟨w.heap.size + 1, 0, none⟩), .slice (some ⟨w.heap.size, 0, none⟩) 1 1] 106)) := ((Below.refl _ _).alloc (Nat.le_refl _) _).alloc (by simp) _
  go_enter Try.func42, Try.ntmps42
  go_wp2
  go_ret
  refine ⟨w.heap.size + 1, rfl, ⟨⟨_, hf, rfl, .inr ⟨w.heap.size, 1, #[.pointer none], rfl, Nat.le_refl _, hr, Nat.le_refl _, by unfold maxLen; omega, rfl, rfl⟩⟩, fun q hq => ?_, Nat.le_succ _, Nat.one_pos, by simp⟩, hB⟩
  rw [List.mem_singleton.1 hq]
  exact ⟨rfl, trivial, rfl⟩
set_option maxRecDepth 100000 in
set_option maxHeartbeats 1000000 in
theorem putc_ (w : World) (A : Option Addr) (n c : Nat) (l : List Ext) (h : Es w A n l) (hn : n ≤ 9223372036854775807) (bx : Nat) (x : Ext) (fx : Fit x) (hx : Blk w bx 77 (ea x)) :
    Calls Try.prog 67 #[.slice A n c, .pointer (some ⟨bx, 0, none⟩)] w fun e w' => Ans w w' e (errOf (rightB l && x.may)) (ifL (rightB l && x.may) (putL l x)) := by
  have c0 := hx.cell (j := 0) (u := .int .i64 x.off) rfl
  have c1 := hx.cell (j := 1) (u := .int .i64 x.len) rfl
  have c2 := hx.cell (j := 2) (u := .int .i64 x.phys) rfl
  have c3 := hx.cell (j := 3) (u := .int .i64 x.birth) rfl
  go_enter Try.func67, Try.ntmps67
  go_wp2_with fail
  refine (put_ w A n c l h hn x fx).mono ?_
  rintro e w2 ⟨A2, m2, c2', rfl, g2, hb2⟩
  go_wp2
  go_ret2
  exact ⟨A2, m2, c2', rfl, g2, hb2⟩
set_option maxRecDepth 100000 in
set_option maxHeartbeats 1000000 in
theorem cutc_ (w : World) (A : Option Addr) (n c : Nat) (l : List Ext) (h : Es w A n l) (hn : n ≤ 9223372036854775807) (bo bn : Nat) (o k : Int) (fo : I64 o) (fk : I64 k) (ho : Blk w bo 3 #[.int .i64 o]) (hk : Blk w bn 3 #[.int .i64 k]) :
    Calls Try.prog 65 #[.slice A n c, .pointer (some ⟨bo, 0, none⟩), .pointer (some ⟨bn, 0, none⟩)] w fun e w' => Ans w w' e (errOf (rightB l && rangeB o k)) (ifL (rightB l && rangeB o k) (cutL l o k)) := by
  have c0 := ho.cell (j := 0) (u := .int .i64 o) rfl
  have c1 := hk.cell (j := 0) (u := .int .i64 k) rfl
  go_enter Try.func65, Try.ntmps65
  go_wp2_with fail
  refine (cut_ w A n c l h hn o k fo fk).mono ?_
  rintro e w2 ⟨A2, m2, c2', rfl, g2, hb2⟩
  go_wp2
  go_ret2
  exact ⟨A2, m2, c2', rfl, g2, hb2⟩
theorem Nd.ty {T : TypeId → Prop} {w w' : World} {b : Nat} (hT : ¬ T 126) (hb : Ty T w w') : ∀ {t : Tr} {a : Option Addr}, Nd w b a t → Nd w' b a t
  | .node _ lo x hi, a, h => by
    obtain ⟨b0, al, ah, rfl, h1, h2⟩ := h
    exact ⟨b0, al, ah, rfl, hb.block _ _ _ h1 hT, h2.imp id (Or.imp (Nd.ty hT hb) (Nd.ty hT hb))⟩
/-- A tree more. -/
structure More (w w' : World) (B f : Nat) (ls : List Root) (q : Root) (l : List Ext) (q' : Root) : Prop where
  fo : Fo w' B f (ls ++ [q'])
  list : q'.2.list = l
  made : Tree w' (fun b => Nd w' b q.1 q.2) q'.1 q'.2
  fresh : q'.2.fresh ≤ 16 * (q.2.deep + q'.2.deep + 2)
  below : Below B w w'
  ty : Ty FoT w w'
  maps : ∀ (i : Nat) (es : Array MapEntry) (c : Nat), w.heap[i]? = some (Obj.map es c) → w'.heap[i]? = some (Obj.map es c)
theorem enters_turn (vs : Array Value) (w : World) : (callFunc 77 vs).run Try.prog w = .ok (.enter 77 vs) w := by go_simp
theorem info_tree : (Try.prog.info? 103).map (fun i => (i.zero, i.size, i.bytes)) = some (some (.agg #[.pointer none]), 1, 8) := by kernel_rfl
theorem tree_info : ∃ i, Try.prog.info? 103 = some i ∧ i.zero = some (.agg #[.pointer none]) ∧ i.size = 1 ∧ i.bytes = 8 := by
  obtain ⟨i, hi, he⟩ := Option.map_eq_some_iff.1 info_tree
  simp only [Prod.mk.injEq] at he
  exact ⟨i, hi, he.1, he.2.1, he.2.2⟩
/-- The row of a forest lies in a block that was there. -/
theorem row_block {w : World} {B n : Nat} {e : TypeId} {v : Value} {xs : List Value} (h : w.ownsRow B e 1 v n xs) : ∀ g, v.ownBlock = some g → B ≤ g ∧ ∃ cs, Blk w g e cs := fun g hg => by
  rcases h.2 with ⟨rfl, _⟩ | ⟨g', cap, cur, rfl, hb, hh, _⟩
  · cases hg
  · injection hg with hg
    subst hg
    exact ⟨hb, cur, hh⟩
theorem more_of {w w4 w5 : World} {B f : Nat} {ls : List Root} {q : Root} {l : List Ext} {aT : Option Addr} {t' : Tr} {v v5 : Value} (h : Fo w B f ls) (hB : B ≤ w.heap.size) (hfew : ls.length < 100000)
    (k1 : Blk w f 106 #[.pointer (some ⟨f, 0, none⟩), v]) (k2 : w.ownsRow B 103 1 v ls.length (ls.map fun q => .pointer q.1)) (hb4 : Below w.heap.size w w4)
    (ht4 : Tree w4 (fun b => Nd w b q.1 q.2) aT t') (hbal : t'.bal) (hl : t'.list = l) (hr : rightB l = true) (hf : t'.fresh ≤ 16 * (q.2.deep + t'.deep + 2))
    (hown5 : w5.ownsRow B 103 1 v5 (ls.length + 1) ((ls.map fun q => Value.pointer q.1) ++ [.pointer aT])) (hg5 : w4.grownBy w5 v.ownBlock) :
    More w (w5.setCell ⟨f, 1, none⟩ v5) B f ls q l (aT, t') := by
  have hrow := row_block k2
  have hr4 : ∀ g, v.ownBlock = some g → ∃ cs, Blk w4 g 103 cs := fun g hg => by obtain ⟨-, cs, k⟩ := hrow g hg; exact ⟨cs, k.keep hb4⟩
  have ty45 : Ty FoT w4 w5 := Ty.ofGrown hg5 fun g hg => by obtain ⟨cs, k⟩ := hr4 g hg; exact ⟨_, cs, k, .inr rfl⟩
  have k4 := k1.keep hb4
  have k5 : Blk w5 f 106 #[.pointer (some ⟨f, 0, none⟩), v] := k4.grown hg5 fun e => by
    obtain ⟨cs, k⟩ := hr4 f e.symm
    exact absurd (blk_type k4 k) (by decide)
  have ty59 : Ty FoT w5 (w5.setCell ⟨f, 1, none⟩ v5) := Ty.set k5 (.inl rfl) 1 v5
  have ty49 := ty45.trans ty59
  have ty9 : Ty FoT w (w5.setCell ⟨f, 1, none⟩ v5) := (Ty.ofBelow hb4).trans ty49
  have hbe5 : Below B w w5 := (hb4.mono hB).trans (grown_below hg5 (Nat.le_trans hB hb4.size) fun g hg => (hrow g hg).1)
  have hne : v5.ownBlock ≠ some f := fun e => by
    obtain ⟨-, cs, k⟩ := row_block hown5 f e
    exact absurd (blk_type k5 k) (by decide)
  have ht9 : Tree (w5.setCell ⟨f, 1, none⟩ v5) (fun b => Nd w b q.1 q.2) aT t' := ht4.ty FoT.node ty49
  refine ⟨⟨⟨v5, k5.setCell 1 v5, ?_⟩, fun r hr' => ?_, h.new, by simp, by simp; omega⟩, hl, ht9.mono fun b hb => Nd.ty FoT.node ty9 hb, hf, hbe5.setCell h.new _, ty9, fun i es c hi => ?_⟩
  · have := ownsRow_setCell_other hown5 (a := ⟨f, 1, none⟩) hne v5
    simpa using this
  · rcases List.mem_append.1 hr' with hr' | hr'
    · exact ⟨(h.trees r hr').1.ty FoT.node ty9, (h.trees r hr').2⟩
    · rw [List.mem_singleton.1 hr']
      exact ⟨ht9.mono fun _ _ => trivial, hbal, by rw [hl]; exact hr⟩
  · have e4 := (hb4.block i (Array.getElem?_eq_some_iff.1 hi).1).trans hi
    have e5 := (hg5.block i (Array.getElem?_eq_some_iff.1 e4).1 (fun e => by
      obtain ⟨cs, kk⟩ := hr4 i e.symm
      have kk' : w4.heap[i]? = some (.cells cs 103 (0, 0)) := kk
      rw [kk'] at e4; cases e4)).trans e4
    rw [Below.heap_setCell _ _ _ _ (fun e => by
      have k5' : w5.heap[f]? = some (.cells #[.pointer (some ⟨f, 0, none⟩), v] 106 (0, 0)) := k5
      have e : i = f := e
      rw [e, k5'] at e5; cases e5)]
    exact e5
end Go.Proofs.Ytfcfffilfmbpeaa

namespace Go.Proofs.Ytfcfffilfmbpeaa
open Go.RowKit

section
variable (w : World) (B f : Nat) (ls : List Root)
set_option maxRecDepth 100000 in
set_option maxHeartbeats 4000000 in
theorem change_put_no (p : Option Addr) (h : NoFo w p) (r : Int) (x : Ext) (fx : Fit x) (bx : Nat) (hx : Blk w bx 77 (ea x)) :
    Calls Try.prog 64 #[.pointer p, .int .i64 r, .int .i64 x.off, .int .i64 x.len, .func (.func 67) #[] #[.pointer (some ⟨bx, 0, none⟩)]] w fun e w' => e = .returned (.tuple #[.int .i64 0, .int .i64 2]) ∧ Below w.heap.size w w' := by
  go_enter Try.func64, Try.ntmps64
  go_wp2_with fail
  refine (tree_no w p h r).mono ?_
  rintro e w2 ⟨rfl, hb2⟩
  have hb3 := hb2.alloc hb2.size (.cells #[.pointer none] 103)
  go_wp2
  go_ret2
  exact ⟨rfl, hb3⟩
set_option maxRecDepth 100000 in
set_option maxHeartbeats 4000000 in
theorem change_put_none (h : Fo w B f ls) (r : Int) (hq : rootAt ls r = none) (x : Ext) (fx : Fit x) (bx : Nat) (hx : Blk w bx 77 (ea x)) :
    Calls Try.prog 64 #[.pointer (some ⟨f, 0, none⟩), .int .i64 r, .int .i64 x.off, .int .i64 x.len, .func (.func 67) #[] #[.pointer (some ⟨bx, 0, none⟩)]] w fun e w' => e = .returned (.tuple #[.int .i64 0, .int .i64 9]) ∧ Below w.heap.size w w' := by
  have ht := tree_ w B f ls h r
  rw [hq] at ht
  simp only [treeA, treeE] at ht
  clear hq
  go_enter Try.func64, Try.ntmps64
  go_wp2_with fail
  refine ht.mono ?_
  rintro e w2 ⟨rfl, hb2⟩
  have hb3 := hb2.alloc hb2.size (.cells #[.pointer none] 103)
  clear ht
  go_wp2
  go_ret2
  exact ⟨rfl, hb3⟩
set_option maxRecDepth 100000 in
set_option maxHeartbeats 4000000 in
theorem change_put_bad (h : Fo w B f ls) (r : Int) (q : Root) (hq : rootAt ls r = some q) (x : Ext) (fx : Fit x) (bx : Nat) (hx : Blk w bx 77 (ea x)) (hm : x.may = false) :
    Calls Try.prog 64 #[.pointer (some ⟨f, 0, none⟩), .int .i64 r, .int .i64 x.off, .int .i64 x.len, .func (.func 67) #[] #[.pointer (some ⟨bx, 0, none⟩)]] w fun e w' => e = .returned (.tuple #[.int .i64 0, .int .i64 1]) ∧ Below w.heap.size w w' := by
  have ht := tree_ w B f ls h r
  rw [hq] at ht
  obtain ⟨a, t⟩ := q
  simp only [treeA, treeE] at ht
  clear hq
  go_enter Try.func64, Try.ntmps64
  go_wp2_with fail
  refine ht.mono ?_
  rintro e w2 ⟨rfl, hb2⟩
  have hb3 := hb2.alloc hb2.size (.cells #[.pointer a] 103)
  clear ht
  go_wp2_with fail
  refine (putc_ _ none 0 0 [] Es.nil (by omega) bx x fx (hx.keep hb3)).mono ?_
  rw [right_nil, hm]
  rintro e w4 ⟨A4, m4, c4, rfl, g4, hb4⟩
  have hb5 := hb3.trans (hb4.mono hb3.size)
  have e1 : errOf (true && false) = 1 := rfl
  rw [e1]
  go_wp2
  go_ret2
  exact ⟨rfl, hb5⟩
set_option maxRecDepth 100000 in
set_option maxHeartbeats 4000000 in
theorem change_put_ok (h : Fo w B f ls) (hB : B ≤ w.heap.size) (hfew : ls.length < 100000) (r : Int) (q : Root) (hq : rootAt ls r = some q) (x : Ext) (fx : Fit x) (bx : Nat) (hx : Blk w bx 77 (ea x)) (hm : x.may = true) :
    Calls Try.prog 64 #[.pointer (some ⟨f, 0, none⟩), .int .i64 r, .int .i64 x.off, .int .i64 x.len, .func (.func 67) #[] #[.pointer (some ⟨bx, 0, none⟩)]] w fun e w' => ∃ q', e = .returned (.tuple #[.int .i64 (ls.length : Int), .int .i64 0]) ∧ More w w' B f ls q (putL q.2.list x) q' := by
  have hxl := may_len hm
  have hrg : 0 ≤ x.off ∧ 1 ≤ x.len ∧ x.off + x.len ≤ 1024 := by omega
  have hwo : IntKind.i64.wrap (x.off + x.len) = x.off + x.len := by rw [IntKind.wrap_i64]; omega
  have hfb : I64 x.off := by unfold I64; omega
  have hfe : I64 (x.off + x.len) := by unfold I64; omega
  obtain ⟨hT, hbal, hr⟩ := h.root r
  have ht := tree_ w B f ls h r
  rw [hq] at hT hr ht hbal
  obtain ⟨a, t⟩ := q
  simp only [treeA, treeT, treeE] at hT hr ht hbal
  have hl := (right_is.1 hr).1
  have hz := size_small hr
  have HN := Lib.hid (nearT_is (b := x.off) (e := (x.off + x.len)) hl)
  have hNr := near_right (b := x.off) (e := (x.off + x.len)) hr (by omega)
  have hNl := nearT_len (t := t) (b := x.off) (e := (x.off + x.len)) hl
  clear hq
  go_enter Try.func64, Try.ntmps64
  go_wp2_with fail
  refine ht.mono ?_
  rintro e w2 ⟨rfl, hb2⟩
  have hnew := Blk.new w2 103 #[.pointer a] rfl
  have hb3 := hb2.alloc hb2.size (.cells #[.pointer a] 103)
  clear ht
  go_wp2_with fail
  refine (putc_ _ none 0 0 [] Es.nil (by omega) bx x fx (hx.keep hb3)).mono ?_
  rw [right_nil, hm]
  rintro e w4 ⟨A4, m4, c4, rfl, -, hb4⟩
  have hb5 := hb3.trans (hb4.mono hb3.size)
  have k5 := (hnew.keep hb4).cell (j := 0) (u := .pointer a) rfl
  have hn5 := hnew.keep hb4
  have e1 : errOf (true && true) = 0 := rfl
  rw [e1]
  clear hnew
  go_wp2_with fail
  refine (near_ All x.off (x.off + x.len) hfb hfe t 0 hl a _ w.heap.size (.slice none 0 0) 0 [] (hT.below hb5) (eo_nil _ _) hb5.size (by omega)).mono ?_
  rintro e w6 ⟨v6, m6, rfl, ho6, ha6⟩
  have hb7 := hb5.trans (ha6.below hb5.size (by intro k hk; cases hk))
  have hn7 := hn5.grown ha6.1 (by intro e; cases e)
  rw [List.nil_append, HN.out] at ho6
  have hm6 := eo_len ho6
  obtain ⟨A6, c6, rfl, -, -, -⟩ := own_form ho6
  have hE := eo_es ho6 (mays_fit (mays_right hNr))
  have hm64 : m6 ≤ 9223372036854775807 := by rw [hm6, ← HN.out]; omega
  clear hm6 ho6 ha6 hn5 k5
  go_wp2_with fail
  refine (putc_ _ A6 m6 c6 _ hE hm64 bx x fx (hx.keep hb7)).mono ?_
  rw [hNr, hm]
  rintro e w8 ⟨A8, m8, c8, rfl, g8, hb8⟩
  have hb9 := hb7.trans (hb8.mono hb7.size)
  have hn9 := hn7.keep hb8
  have hq9 : w.heap.size ≤ w2.heap.size := hb2.size
  generalize w2.heap.size = p at *
  have e2 : errOf (true && true) = 0 := rfl
  have e3 : ifL (true && true) (putL (t.list.filter (isNear x.off (x.off + x.len))) x) = putL (t.list.filter (isNear x.off (x.off + x.len))) x := rfl
  rw [e2]
  rw [e3] at g8
  clear e1 e2 e3 hb8 hn7 hb7 hE hm64 hNl hb5 hb4 hb3 hb2
  have hlen : m8 ≤ 3 := by
    have := g8.es.len
    rw [this]
    exact near_put_len hr hm
  have h9 := h.below hb9
  have hT9 := tree_olden hT (S' := fun b => Nd w b a t) fun _ hb => hb
  replace hT9 := hT9.below hb9
  have hes := g8.es
  go_wp2_with fail
  obtain ⟨i0, hi0, hz0, hz1, hz2⟩ := tree_info
  have Hz := Lib.hid hz2
  clear hz2
  obtain ⟨v, k1, k2⟩ := h.row
  have hrowb := row_block k2
  obtain ⟨rA, rc, rfl, hrc1, hrc2, hrc3⟩ := own_form k2
  have hk1l := k1.lt
  have k18 := k1.keep hb9
  have k28 := own_keep k2 hb9
  have hpne : ∀ g, (Value.slice rA ls.length rc).ownBlock = some g → g ≠ p := fun g hg => by
    obtain ⟨-, cs, kk⟩ := hrowb g hg
    have := kk.lt
    omega
  have htis := turnT_is (t := t.olden) (lo := 0) (b := x.off) (e := (x.off + x.len)) (l := putL (t.list.filter (isNear x.off (x.off + x.len))) x) (Tr.olden_bal hbal) (by rw [Tr.olden_list]; exact hl) (by rw [← hes.len]; exact hlen)
  rw [Tr.olden_list, Tr.olden_deep, Tr.olden_fresh] at htis
  have HT := Lib.hid htis
  have hwl : IntKind.i64.wrap (((ls.length + 1 : Nat) : Int) - 1) = (ls.length : Int) := by rw [IntKind.wrap_i64]; omega
  have hpl := hn9.lt
  clear htis hrc1 hrc2 hrc3
  refine wp_region_noPanic ?_
  refine wp_region_held_drew (S := (fun w' => w'.cell? ⟨p, 0, none⟩ = some (.pointer a))) (by kernel_rfl) (hn9.cell rfl) (fun _ => ?_)
  refine wpAnyH_take (i := 0) (oi := _) (v := ?_) rfl (by kernel_rfl) (by kernel_rfl) (by kernel_rfl) (fun _ _ _ h => h) (Or.inl ⟨by kernel_rfl, ?_⟩) (hn9.cell rfl) ?_
  rotate_left
  · (rintro w s0; go_simp; (first | done | rfl))
  try simp only [Act.put, List.getElem_toArray, List.getElem_cons_zero, List.getElem_cons_succ, List.setIfInBounds_toArray, List.set_cons_zero, List.set_cons_succ]
  refine wpAnyH_take (i := 1) (oi := _) (v := ?_) rfl (by kernel_rfl) (by kernel_rfl) (by kernel_rfl) (fun _ _ _ h => h) (Or.inl ⟨by kernel_rfl, ?_⟩) (hn9.cell rfl) ?_
  rotate_left
  · (rintro w s0; go_simp; (first | done | rfl))
  try simp only [Act.put, List.getElem_toArray, List.getElem_cons_zero, List.getElem_cons_succ, List.setIfInBounds_toArray, List.set_cons_zero, List.set_cons_succ]
  refine wpAnyH_take (i := 2) (oi := _) (v := ?_) rfl (by kernel_rfl) (by kernel_rfl) (by kernel_rfl) (fun _ _ _ h => h) (Or.inl ⟨by kernel_rfl, ?_⟩) (hn9.cell rfl) ?_
  rotate_left
  · (rintro w s0; go_simp; (first | done | rfl))
  try simp only [Act.put, List.getElem_toArray, List.getElem_cons_zero, List.getElem_cons_succ, List.setIfInBounds_toArray, List.set_cons_zero, List.set_cons_succ]
  refine wpAnyH_take (i := 3) (oi := _) (v := ?_) rfl (by kernel_rfl) (by kernel_rfl) (by kernel_rfl) (fun _ _ _ h => h) (Or.inl ⟨by kernel_rfl, ?_⟩) (hn9.cell rfl) ?_
  rotate_left
  · (rintro w s0; go_simp; (first | done | rfl))
  try simp only [Act.put, List.getElem_toArray, List.getElem_cons_zero, List.getElem_cons_succ, List.setIfInBounds_toArray, List.set_cons_zero, List.set_cons_succ]
  refine wpAnyH_take (i := 5) (oi := _) (v := ?_) rfl (by kernel_rfl) (by kernel_rfl) (by kernel_rfl) (fun _ _ _ h => h) (Or.inl ⟨by kernel_rfl, ?_⟩) (hn9.cell rfl) ?_
  rotate_left
  · (rintro w s0; go_simp; (first | done | rfl))
  try simp only [Act.put, List.getElem_toArray, List.getElem_cons_zero, List.getElem_cons_succ, List.setIfInBounds_toArray, List.set_cons_zero, List.set_cons_succ]
  refine wpAnyH_take (i := 6) (oi := _) (v := ?_) rfl (by kernel_rfl) (by kernel_rfl) (by kernel_rfl) (fun _ _ _ h => h) (Or.inl ⟨by kernel_rfl, ?_⟩) (hn9.cell rfl) ?_
  rotate_left
  · (rintro w s0; go_simp; (first | done | rfl))
  try simp only [Act.put, List.getElem_toArray, List.getElem_cons_zero, List.getElem_cons_succ, List.setIfInBounds_toArray, List.set_cons_zero, List.set_cons_succ]
  refine wpAnyH_take (i := 7) (oi := _) (v := ?_) rfl (by kernel_rfl) (by kernel_rfl) (by kernel_rfl) (fun _ _ _ h => h) (Or.inl ⟨by kernel_rfl, ?_⟩) (hn9.cell rfl) ?_
  rotate_left
  · (rintro w s0; go_simp; (first | done | rfl))
  try simp only [Act.put, List.getElem_toArray, List.getElem_cons_zero, List.getElem_cons_succ, List.setIfInBounds_toArray, List.set_cons_zero, List.set_cons_succ]
  refine wpAnyH_take (i := 8) (oi := _) (v := ?_) rfl (by kernel_rfl) (by kernel_rfl) (by kernel_rfl) (fun _ _ _ h => h) (Or.inl ⟨by kernel_rfl, ?_⟩) (hn9.cell rfl) ?_
  rotate_left
  · (rintro w s0; go_simp; (first | done | rfl))
  try simp only [Act.put, List.getElem_toArray, List.getElem_cons_zero, List.getElem_cons_succ, List.setIfInBounds_toArray, List.set_cons_zero, List.set_cons_succ]
  refine wpAnyH_take (i := 9) (oi := _) (v := ?_) rfl (by kernel_rfl) (by kernel_rfl) (by kernel_rfl) (fun _ _ _ h => h) (Or.inl ⟨by kernel_rfl, ?_⟩) (hn9.cell rfl) ?_
  rotate_left
  · (rintro w s0; go_simp; (first | done | rfl))
  try simp only [Act.put, List.getElem_toArray, List.getElem_cons_zero, List.getElem_cons_succ, List.setIfInBounds_toArray, List.set_cons_zero, List.set_cons_succ]
  refine wpAnyH_take (i := 10) (oi := _) (v := ?_) rfl (by kernel_rfl) (by kernel_rfl) (by kernel_rfl) (fun _ _ _ h => h) (Or.inl ⟨by kernel_rfl, ?_⟩) (hn9.cell rfl) ?_
  rotate_left
  · (rintro w s0; go_simp; (first | done | rfl))
  try simp only [Act.put, List.getElem_toArray, List.getElem_cons_zero, List.getElem_cons_succ, List.setIfInBounds_toArray, List.set_cons_zero, List.set_cons_succ]
  refine wpAnyH_ready (rs := [4, 11]) (by kernel_rfl) (by simp) (AllReadyH.cons (o := _) rfl (fun K hK => ?_) (AllReadyH.cons (o := _) rfl (fun K hK => ?_) AllReadyH.nil))
  · rw [if_pos (by kernel_rfl)]
    have g1 : (w8.drew).cell? ⟨f, 1, none⟩ = some (.slice rA ls.length rc) := (k18.cell rfl)
    go_simp
    refine hK.out _ _ (hn9.cell rfl) (fun _ => ?_)
    clear hK K
    try simp only [Act.put, List.getElem_toArray, List.getElem_cons_zero, List.getElem_cons_succ, List.setIfInBounds_toArray, List.set_cons_zero, List.set_cons_succ]
    refine wpAnyH_ready (rs := [11]) (by kernel_rfl) (by simp) (AllReadyH.cons (o := _) rfl (fun K hK => ?_) AllReadyH.nil)
    rw [if_pos (by kernel_rfl)]
    refine wp_fn 77 _ _ rfl _ rfl enters_turn (tturn_ (fun b => Nd w b a t) t.olden a A8 m8 c8 _ x.off (x.off + x.len) hfb hfe (Tr.olden_bal hbal) (by rw [Tr.olden_list]; exact hl) (by rw [Tr.olden_size]; omega) hlen _ hT9.drew hes.drew) ?_
    rintro e wT ⟨aT, rfl, htT, hbT0⟩
    have hbT : Below w8.heap.size w8 wT := below_undrew hbT0
    refine ⟨_, rfl, ?_⟩
    refine hK.out _ _ ((hn9.keep hbT).cell rfl) (fun _ => ?_)
    clear hK K
    try simp only [Act.put, List.getElem_toArray, List.getElem_cons_zero, List.getElem_cons_succ, List.setIfInBounds_toArray, List.set_cons_zero, List.set_cons_succ]
    refine wpAnyH_ready (rs := [12]) (by kernel_rfl) (by simp) (AllReadyH.cons (o := _) rfl (fun K hK => ?_) AllReadyH.nil)
    rw [if_pos (by kernel_rfl)]
    go_simp
    refine hK.out _ _ ((hn9.keep (hbT.alloc hbT.size (.cells #[.pointer aT] 103))).cell rfl) (fun _ => ?_)
    clear hK K
    try simp only [Act.put, List.getElem_toArray, List.getElem_cons_zero, List.getElem_cons_succ, List.setIfInBounds_toArray, List.set_cons_zero, List.set_cons_succ]
    refine wpAnyH_ready (rs := [13]) (by kernel_rfl) (by simp) (AllReadyH.cons (o := _) rfl (fun K hK => ?_) AllReadyH.nil)
    rw [if_pos (by kernel_rfl)]
    refine wp_app _ (.tmp 50) (.tmp 58) 104 rfl B 103 i0 _ 1 8 Try.underlying104 hi0 hz0 hz1 Hz.out rfl Nat.one_pos (.slice rA ls.length rc) ls.length _ rfl (own_keep k28 (hbT.alloc hbT.size (.cells #[.pointer aT] 103))) (some ⟨wT.heap.size, 0, none⟩) 1 1 [.pointer aT] rfl (fun h => by cases h) (Rd.new wT #[.pointer aT] 103 (0, 0) rfl) (fun u hu => by rw [List.mem_singleton.1 hu]; rfl) (by unfold maxLen; omega) (by omega) (Nat.le_trans (Nat.le_trans hB hb9.size) (hbT.alloc hbT.size (.cells #[.pointer aT] 103)).size) ?_
    intro v5 w5 hown5 hg5 hat5
    have hmore := more_of h hB hfew k1 k2 ((hb9.trans (hbT.mono hb9.size)).alloc (Nat.le_trans hb9.size hbT.size) (.cells #[.pointer aT] 103)) (q := (a, t)) (htT.alloc _) HT.out.2.1 (HT.out.1.trans (turned_put hr hm)) ((put_is hr hm).1) (by have := HT.out.2.2; simp only [Nat.mul_zero, Nat.zero_add] at this; exact this) hown5 hg5
    obtain ⟨A5, c5, rfl, -, -, -⟩ := own_form hown5
    have kf5 : Blk w5 f 106 _ := (k18.keep (hbT.alloc hbT.size (.cells #[.pointer aT] 103))).grown hg5 (fun e => by obtain ⟨-, cs, kk⟩ := hrowb f e.symm; exact absurd (blk_type k1 kk) (by decide))
    have f5 := kf5.free 1
    have d5 := kf5.cell (j := 1) (u := (.slice rA ls.length rc)) rfl
    have hp5 : w5.cell? ⟨p, 0, none⟩ = some (.pointer a) := ((hn9.keep (hbT.alloc hbT.size (.cells #[.pointer aT] 103))).grown hg5 (fun e => hpne p e.symm rfl)).cell rfl
    clear hown5 hg5 hat5
    refine hK.out _ _ hp5 (fun _ => ?_)
    clear hK K
    try simp only [Act.put, List.getElem_toArray, List.getElem_cons_zero, List.getElem_cons_succ, List.setIfInBounds_toArray, List.set_cons_zero, List.set_cons_succ]
    refine wpAnyH_take (i := 14) (oi := _) (v := ?_) rfl (by kernel_rfl) (by kernel_rfl) (by kernel_rfl) (fun _ _ _ h => h) (Or.inl ⟨by kernel_rfl, ?_⟩) hp5 ?_
    rotate_left
    · (rintro w s0; go_simp; (first | done | rfl))
    try simp only [Act.put, List.getElem_toArray, List.getElem_cons_zero, List.getElem_cons_succ, List.setIfInBounds_toArray, List.set_cons_zero, List.set_cons_succ]
    refine wpAnyH_take (i := 15) (oi := _) (v := ?_) rfl (by kernel_rfl) (by kernel_rfl) (by kernel_rfl) (fun _ _ _ h => h) (Or.inl ⟨by kernel_rfl, ?_⟩) hp5 ?_
    rotate_left
    · (rintro w s0; go_simp; (first | done | rfl))
    try simp only [Act.put, List.getElem_toArray, List.getElem_cons_zero, List.getElem_cons_succ, List.setIfInBounds_toArray, List.set_cons_zero, List.set_cons_succ]
    refine wpAnyH_ready (rs := [16]) (by kernel_rfl) (by simp) (AllReadyH.cons (o := _) rfl (fun K hK => ?_) AllReadyH.nil)
    rw [if_pos (by kernel_rfl)]
    go_simp
    refine hK.out _ _ (by rw [World.cell?_setCell_far _ ⟨f, 1, none⟩ ⟨p, 0, none⟩ _ (by show f ≠ p; omega)]; exact hp5) (fun _ => ?_)
    clear hK K
    try simp only [Act.put, List.getElem_toArray, List.getElem_cons_zero, List.getElem_cons_succ, List.setIfInBounds_toArray, List.set_cons_zero, List.set_cons_succ]
    refine wpAnyH_done (by kernel_rfl) ?_ _
    refine NoPanic.normal ?_
    have d9 := (kf5.setCell 1 (.slice A5 (ls.length + 1) c5)).cell (j := 1) (u := .slice A5 (ls.length + 1) c5) rfl
    clear hT9 h9 h
    go_wp2
    go_ret2
    exact ⟨_, rfl, hmore⟩
  · rw [if_pos (by kernel_rfl)]
    refine wp_fn 77 _ _ rfl _ rfl enters_turn (tturn_ (fun b => Nd w b a t) t.olden a A8 m8 c8 _ x.off (x.off + x.len) hfb hfe (Tr.olden_bal hbal) (by rw [Tr.olden_list]; exact hl) (by rw [Tr.olden_size]; omega) hlen _ hT9.drew hes.drew) ?_
    rintro e wT ⟨aT, rfl, htT, hbT0⟩
    have hbT : Below w8.heap.size w8 wT := below_undrew hbT0
    refine ⟨_, rfl, ?_⟩
    refine hK.out _ _ ((hn9.keep hbT).cell rfl) (fun _ => ?_)
    clear hK K
    try simp only [Act.put, List.getElem_toArray, List.getElem_cons_zero, List.getElem_cons_succ, List.setIfInBounds_toArray, List.set_cons_zero, List.set_cons_succ]
    refine wpAnyH_ready (rs := [4, 12]) (by kernel_rfl) (by simp) (AllReadyH.cons (o := _) rfl (fun K hK => ?_) (AllReadyH.cons (o := _) rfl (fun K hK => ?_) AllReadyH.nil))
    · rw [if_pos (by kernel_rfl)]
      have g1 : (wT).cell? ⟨f, 1, none⟩ = some (.slice rA ls.length rc) := ((k18.keep hbT).cell rfl)
      go_simp
      refine hK.out _ _ ((hn9.keep hbT).cell rfl) (fun _ => ?_)
      clear hK K
      try simp only [Act.put, List.getElem_toArray, List.getElem_cons_zero, List.getElem_cons_succ, List.setIfInBounds_toArray, List.set_cons_zero, List.set_cons_succ]
      refine wpAnyH_ready (rs := [12]) (by kernel_rfl) (by simp) (AllReadyH.cons (o := _) rfl (fun K hK => ?_) AllReadyH.nil)
      rw [if_pos (by kernel_rfl)]
      go_simp
      refine hK.out _ _ ((hn9.keep (hbT.alloc hbT.size (.cells #[.pointer aT] 103))).cell rfl) (fun _ => ?_)
      clear hK K
      try simp only [Act.put, List.getElem_toArray, List.getElem_cons_zero, List.getElem_cons_succ, List.setIfInBounds_toArray, List.set_cons_zero, List.set_cons_succ]
      refine wpAnyH_ready (rs := [13]) (by kernel_rfl) (by simp) (AllReadyH.cons (o := _) rfl (fun K hK => ?_) AllReadyH.nil)
      rw [if_pos (by kernel_rfl)]
      refine wp_app _ (.tmp 50) (.tmp 58) 104 rfl B 103 i0 _ 1 8 Try.underlying104 hi0 hz0 hz1 Hz.out rfl Nat.one_pos (.slice rA ls.length rc) ls.length _ rfl (own_keep k28 (hbT.alloc hbT.size (.cells #[.pointer aT] 103))) (some ⟨wT.heap.size, 0, none⟩) 1 1 [.pointer aT] rfl (fun h => by cases h) (Rd.new wT #[.pointer aT] 103 (0, 0) rfl) (fun u hu => by rw [List.mem_singleton.1 hu]; rfl) (by unfold maxLen; omega) (by omega) (Nat.le_trans (Nat.le_trans hB hb9.size) (hbT.alloc hbT.size (.cells #[.pointer aT] 103)).size) ?_
      intro v5 w5 hown5 hg5 hat5
      have hmore := more_of h hB hfew k1 k2 ((hb9.trans (hbT.mono hb9.size)).alloc (Nat.le_trans hb9.size hbT.size) (.cells #[.pointer aT] 103)) (q := (a, t)) (htT.alloc _) HT.out.2.1 (HT.out.1.trans (turned_put hr hm)) ((put_is hr hm).1) (by have := HT.out.2.2; simp only [Nat.mul_zero, Nat.zero_add] at this; exact this) hown5 hg5
      obtain ⟨A5, c5, rfl, -, -, -⟩ := own_form hown5
      have kf5 : Blk w5 f 106 _ := (k18.keep (hbT.alloc hbT.size (.cells #[.pointer aT] 103))).grown hg5 (fun e => by obtain ⟨-, cs, kk⟩ := hrowb f e.symm; exact absurd (blk_type k1 kk) (by decide))
      have f5 := kf5.free 1
      have d5 := kf5.cell (j := 1) (u := (.slice rA ls.length rc)) rfl
      have hp5 : w5.cell? ⟨p, 0, none⟩ = some (.pointer a) := ((hn9.keep (hbT.alloc hbT.size (.cells #[.pointer aT] 103))).grown hg5 (fun e => hpne p e.symm rfl)).cell rfl
      clear hown5 hg5 hat5
      refine hK.out _ _ hp5 (fun _ => ?_)
      clear hK K
      try simp only [Act.put, List.getElem_toArray, List.getElem_cons_zero, List.getElem_cons_succ, List.setIfInBounds_toArray, List.set_cons_zero, List.set_cons_succ]
      refine wpAnyH_take (i := 14) (oi := _) (v := ?_) rfl (by kernel_rfl) (by kernel_rfl) (by kernel_rfl) (fun _ _ _ h => h) (Or.inl ⟨by kernel_rfl, ?_⟩) hp5 ?_
      rotate_left
      · (rintro w s0; go_simp; (first | done | rfl))
      try simp only [Act.put, List.getElem_toArray, List.getElem_cons_zero, List.getElem_cons_succ, List.setIfInBounds_toArray, List.set_cons_zero, List.set_cons_succ]
      refine wpAnyH_take (i := 15) (oi := _) (v := ?_) rfl (by kernel_rfl) (by kernel_rfl) (by kernel_rfl) (fun _ _ _ h => h) (Or.inl ⟨by kernel_rfl, ?_⟩) hp5 ?_
      rotate_left
      · (rintro w s0; go_simp; (first | done | rfl))
      try simp only [Act.put, List.getElem_toArray, List.getElem_cons_zero, List.getElem_cons_succ, List.setIfInBounds_toArray, List.set_cons_zero, List.set_cons_succ]
      refine wpAnyH_ready (rs := [16]) (by kernel_rfl) (by simp) (AllReadyH.cons (o := _) rfl (fun K hK => ?_) AllReadyH.nil)
      rw [if_pos (by kernel_rfl)]
      go_simp
      refine hK.out _ _ (by rw [World.cell?_setCell_far _ ⟨f, 1, none⟩ ⟨p, 0, none⟩ _ (by show f ≠ p; omega)]; exact hp5) (fun _ => ?_)
      clear hK K
      try simp only [Act.put, List.getElem_toArray, List.getElem_cons_zero, List.getElem_cons_succ, List.setIfInBounds_toArray, List.set_cons_zero, List.set_cons_succ]
      refine wpAnyH_done (by kernel_rfl) ?_ _
      refine NoPanic.normal ?_
      have d9 := (kf5.setCell 1 (.slice A5 (ls.length + 1) c5)).cell (j := 1) (u := .slice A5 (ls.length + 1) c5) rfl
      clear hT9 h9 h
      go_wp2
      go_ret2
      exact ⟨_, rfl, hmore⟩
    · rw [if_pos (by kernel_rfl)]
      go_simp
      refine hK.out _ _ ((hn9.keep (hbT.alloc hbT.size (.cells #[.pointer aT] 103))).cell rfl) (fun _ => ?_)
      clear hK K
      try simp only [Act.put, List.getElem_toArray, List.getElem_cons_zero, List.getElem_cons_succ, List.setIfInBounds_toArray, List.set_cons_zero, List.set_cons_succ]
      refine wpAnyH_ready (rs := [4]) (by kernel_rfl) (by simp) (AllReadyH.cons (o := _) rfl (fun K hK => ?_) AllReadyH.nil)
      rw [if_pos (by kernel_rfl)]
      have g1 : (wT.alloc (.cells #[.pointer aT] 103)).cell? ⟨f, 1, none⟩ = some (.slice rA ls.length rc) := ((k18.keep (hbT.alloc hbT.size (.cells #[.pointer aT] 103))).cell rfl)
      go_simp
      refine hK.out _ _ ((hn9.keep (hbT.alloc hbT.size (.cells #[.pointer aT] 103))).cell rfl) (fun _ => ?_)
      clear hK K
      try simp only [Act.put, List.getElem_toArray, List.getElem_cons_zero, List.getElem_cons_succ, List.setIfInBounds_toArray, List.set_cons_zero, List.set_cons_succ]
      refine wpAnyH_ready (rs := [13]) (by kernel_rfl) (by simp) (AllReadyH.cons (o := _) rfl (fun K hK => ?_) AllReadyH.nil)
      rw [if_pos (by kernel_rfl)]
      refine wp_app _ (.tmp 50) (.tmp 58) 104 rfl B 103 i0 _ 1 8 Try.underlying104 hi0 hz0 hz1 Hz.out rfl Nat.one_pos (.slice rA ls.length rc) ls.length _ rfl (own_keep k28 (hbT.alloc hbT.size (.cells #[.pointer aT] 103))) (some ⟨wT.heap.size, 0, none⟩) 1 1 [.pointer aT] rfl (fun h => by cases h) (Rd.new wT #[.pointer aT] 103 (0, 0) rfl) (fun u hu => by rw [List.mem_singleton.1 hu]; rfl) (by unfold maxLen; omega) (by omega) (Nat.le_trans (Nat.le_trans hB hb9.size) (hbT.alloc hbT.size (.cells #[.pointer aT] 103)).size) ?_
      intro v5 w5 hown5 hg5 hat5
      have hmore := more_of h hB hfew k1 k2 ((hb9.trans (hbT.mono hb9.size)).alloc (Nat.le_trans hb9.size hbT.size) (.cells #[.pointer aT] 103)) (q := (a, t)) (htT.alloc _) HT.out.2.1 (HT.out.1.trans (turned_put hr hm)) ((put_is hr hm).1) (by have := HT.out.2.2; simp only [Nat.mul_zero, Nat.zero_add] at this; exact this) hown5 hg5
      obtain ⟨A5, c5, rfl, -, -, -⟩ := own_form hown5
      have kf5 : Blk w5 f 106 _ := (k18.keep (hbT.alloc hbT.size (.cells #[.pointer aT] 103))).grown hg5 (fun e => by obtain ⟨-, cs, kk⟩ := hrowb f e.symm; exact absurd (blk_type k1 kk) (by decide))
      have f5 := kf5.free 1
      have d5 := kf5.cell (j := 1) (u := (.slice rA ls.length rc)) rfl
      have hp5 : w5.cell? ⟨p, 0, none⟩ = some (.pointer a) := ((hn9.keep (hbT.alloc hbT.size (.cells #[.pointer aT] 103))).grown hg5 (fun e => hpne p e.symm rfl)).cell rfl
      clear hown5 hg5 hat5
      refine hK.out _ _ hp5 (fun _ => ?_)
      clear hK K
      try simp only [Act.put, List.getElem_toArray, List.getElem_cons_zero, List.getElem_cons_succ, List.setIfInBounds_toArray, List.set_cons_zero, List.set_cons_succ]
      refine wpAnyH_take (i := 14) (oi := _) (v := ?_) rfl (by kernel_rfl) (by kernel_rfl) (by kernel_rfl) (fun _ _ _ h => h) (Or.inl ⟨by kernel_rfl, ?_⟩) hp5 ?_
      rotate_left
      · (rintro w s0; go_simp; (first | done | rfl))
      try simp only [Act.put, List.getElem_toArray, List.getElem_cons_zero, List.getElem_cons_succ, List.setIfInBounds_toArray, List.set_cons_zero, List.set_cons_succ]
      refine wpAnyH_take (i := 15) (oi := _) (v := ?_) rfl (by kernel_rfl) (by kernel_rfl) (by kernel_rfl) (fun _ _ _ h => h) (Or.inl ⟨by kernel_rfl, ?_⟩) hp5 ?_
      rotate_left
      · (rintro w s0; go_simp; (first | done | rfl))
      try simp only [Act.put, List.getElem_toArray, List.getElem_cons_zero, List.getElem_cons_succ, List.setIfInBounds_toArray, List.set_cons_zero, List.set_cons_succ]
      refine wpAnyH_ready (rs := [16]) (by kernel_rfl) (by simp) (AllReadyH.cons (o := _) rfl (fun K hK => ?_) AllReadyH.nil)
      rw [if_pos (by kernel_rfl)]
      go_simp
      refine hK.out _ _ (by rw [World.cell?_setCell_far _ ⟨f, 1, none⟩ ⟨p, 0, none⟩ _ (by show f ≠ p; omega)]; exact hp5) (fun _ => ?_)
      clear hK K
      try simp only [Act.put, List.getElem_toArray, List.getElem_cons_zero, List.getElem_cons_succ, List.setIfInBounds_toArray, List.set_cons_zero, List.set_cons_succ]
      refine wpAnyH_done (by kernel_rfl) ?_ _
      refine NoPanic.normal ?_
      have d9 := (kf5.setCell 1 (.slice A5 (ls.length + 1) c5)).cell (j := 1) (u := .slice A5 (ls.length + 1) c5) rfl
      clear hT9 h9 h
      go_wp2
      go_ret2
      exact ⟨_, rfl, hmore⟩
end
end Go.Proofs.Ytfcfffilfmbpeaa

namespace Go.Proofs.Ytfcfffilfmbpeaa
open Go.RowKit

section
variable (w : World) (B f : Nat) (ls : List Root)
set_option maxRecDepth 100000 in
set_option maxHeartbeats 4000000 in
theorem change_cut_no (p : Option Addr) (h : NoFo w p) (r : Int) (o k : Int) (fo : I64 o) (fk : I64 k) (bo bn : Nat) (ho : Blk w bo 3 #[.int .i64 o]) (hk : Blk w bn 3 #[.int .i64 k]) :
    Calls Try.prog 64 #[.pointer p, .int .i64 r, .int .i64 o, .int .i64 k, .func (.func 65) #[] #[.pointer (some ⟨bo, 0, none⟩), .pointer (some ⟨bn, 0, none⟩)]] w fun e w' => e = .returned (.tuple #[.int .i64 0, .int .i64 2]) ∧ Below w.heap.size w w' := by
  go_enter Try.func64, Try.ntmps64
  go_wp2_with fail
  refine (tree_no w p h r).mono ?_
  rintro e w2 ⟨rfl, hb2⟩
  have hb3 := hb2.alloc hb2.size (.cells #[.pointer none] 103)
  go_wp2
  go_ret2
  exact ⟨rfl, hb3⟩
set_option maxRecDepth 100000 in
set_option maxHeartbeats 4000000 in
theorem change_cut_none (h : Fo w B f ls) (r : Int) (hq : rootAt ls r = none) (o k : Int) (fo : I64 o) (fk : I64 k) (bo bn : Nat) (ho : Blk w bo 3 #[.int .i64 o]) (hk : Blk w bn 3 #[.int .i64 k]) :
    Calls Try.prog 64 #[.pointer (some ⟨f, 0, none⟩), .int .i64 r, .int .i64 o, .int .i64 k, .func (.func 65) #[] #[.pointer (some ⟨bo, 0, none⟩), .pointer (some ⟨bn, 0, none⟩)]] w fun e w' => e = .returned (.tuple #[.int .i64 0, .int .i64 9]) ∧ Below w.heap.size w w' := by
  have ht := tree_ w B f ls h r
  rw [hq] at ht
  simp only [treeA, treeE] at ht
  clear hq
  go_enter Try.func64, Try.ntmps64
  go_wp2_with fail
  refine ht.mono ?_
  rintro e w2 ⟨rfl, hb2⟩
  have hb3 := hb2.alloc hb2.size (.cells #[.pointer none] 103)
  clear ht
  go_wp2
  go_ret2
  exact ⟨rfl, hb3⟩
set_option maxRecDepth 100000 in
set_option maxHeartbeats 4000000 in
theorem change_cut_bad (h : Fo w B f ls) (r : Int) (q : Root) (hq : rootAt ls r = some q) (o k : Int) (fo : I64 o) (fk : I64 k) (bo bn : Nat) (ho : Blk w bo 3 #[.int .i64 o]) (hk : Blk w bn 3 #[.int .i64 k]) (hm : rangeB o k = false) :
    Calls Try.prog 64 #[.pointer (some ⟨f, 0, none⟩), .int .i64 r, .int .i64 o, .int .i64 k, .func (.func 65) #[] #[.pointer (some ⟨bo, 0, none⟩), .pointer (some ⟨bn, 0, none⟩)]] w fun e w' => e = .returned (.tuple #[.int .i64 0, .int .i64 1]) ∧ Below w.heap.size w w' := by
  have ht := tree_ w B f ls h r
  rw [hq] at ht
  obtain ⟨a, t⟩ := q
  simp only [treeA, treeE] at ht
  clear hq
  go_enter Try.func64, Try.ntmps64
  go_wp2_with fail
  refine ht.mono ?_
  rintro e w2 ⟨rfl, hb2⟩
  have hb3 := hb2.alloc hb2.size (.cells #[.pointer a] 103)
  clear ht
  go_wp2_with fail
  refine (cutc_ _ none 0 0 [] Es.nil (by omega) bo bn o k fo fk (ho.keep hb3) (hk.keep hb3)).mono ?_
  rw [right_nil, hm]
  rintro e w4 ⟨A4, m4, c4, rfl, g4, hb4⟩
  have hb5 := hb3.trans (hb4.mono hb3.size)
  have e1 : errOf (true && false) = 1 := rfl
  rw [e1]
  go_wp2
  go_ret2
  exact ⟨rfl, hb5⟩
set_option maxRecDepth 100000 in
set_option maxHeartbeats 4000000 in
theorem change_cut_ok (h : Fo w B f ls) (hB : B ≤ w.heap.size) (hfew : ls.length < 100000) (r : Int) (q : Root) (hq : rootAt ls r = some q) (o k : Int) (fo : I64 o) (fk : I64 k) (bo bn : Nat) (ho : Blk w bo 3 #[.int .i64 o]) (hk : Blk w bn 3 #[.int .i64 k]) (hm : rangeB o k = true) :
    Calls Try.prog 64 #[.pointer (some ⟨f, 0, none⟩), .int .i64 r, .int .i64 o, .int .i64 k, .func (.func 65) #[] #[.pointer (some ⟨bo, 0, none⟩), .pointer (some ⟨bn, 0, none⟩)]] w fun e w' => ∃ q', e = .returned (.tuple #[.int .i64 (ls.length : Int), .int .i64 0]) ∧ More w w' B f ls q (cutL q.2.list o k) q' := by
  have hxl := range_is.1 hm
  have hrg : 0 ≤ o ∧ 1 ≤ k ∧ o + k ≤ 1024 := by omega
  have hwo : IntKind.i64.wrap (o + k) = o + k := by rw [IntKind.wrap_i64]; omega
  have hfb : I64 o := by unfold I64; omega
  have hfe : I64 (o + k) := by unfold I64; omega
  obtain ⟨hT, hbal, hr⟩ := h.root r
  have ht := tree_ w B f ls h r
  rw [hq] at hT hr ht hbal
  obtain ⟨a, t⟩ := q
  simp only [treeA, treeT, treeE] at hT hr ht hbal
  have hl := (right_is.1 hr).1
  have hz := size_small hr
  have HN := Lib.hid (nearT_is (b := o) (e := (o + k)) hl)
  have hNr := near_right (b := o) (e := (o + k)) hr (by omega)
  have hNl := nearT_len (t := t) (b := o) (e := (o + k)) hl
  clear hq
  go_enter Try.func64, Try.ntmps64
  go_wp2_with fail
  refine ht.mono ?_
  rintro e w2 ⟨rfl, hb2⟩
  have hnew := Blk.new w2 103 #[.pointer a] rfl
  have hb3 := hb2.alloc hb2.size (.cells #[.pointer a] 103)
  clear ht
  go_wp2_with fail
  refine (cutc_ _ none 0 0 [] Es.nil (by omega) bo bn o k fo fk (ho.keep hb3) (hk.keep hb3)).mono ?_
  rw [right_nil, hm]
  rintro e w4 ⟨A4, m4, c4, rfl, -, hb4⟩
  have hb5 := hb3.trans (hb4.mono hb3.size)
  have k5 := (hnew.keep hb4).cell (j := 0) (u := .pointer a) rfl
  have hn5 := hnew.keep hb4
  have e1 : errOf (true && true) = 0 := rfl
  rw [e1]
  clear hnew
  go_wp2_with fail
  refine (near_ All o (o + k) hfb hfe t 0 hl a _ w.heap.size (.slice none 0 0) 0 [] (hT.below hb5) (eo_nil _ _) hb5.size (by omega)).mono ?_
  rintro e w6 ⟨v6, m6, rfl, ho6, ha6⟩
  have hb7 := hb5.trans (ha6.below hb5.size (by intro k hk; cases hk))
  have hn7 := hn5.grown ha6.1 (by intro e; cases e)
  rw [List.nil_append, HN.out] at ho6
  have hm6 := eo_len ho6
  obtain ⟨A6, c6, rfl, -, -, -⟩ := own_form ho6
  have hE := eo_es ho6 (mays_fit (mays_right hNr))
  have hm64 : m6 ≤ 9223372036854775807 := by rw [hm6, ← HN.out]; omega
  clear hm6 ho6 ha6 hn5 k5
  go_wp2_with fail
  refine (cutc_ _ A6 m6 c6 _ hE hm64 bo bn o k fo fk (ho.keep hb7) (hk.keep hb7)).mono ?_
  rw [hNr, hm]
  rintro e w8 ⟨A8, m8, c8, rfl, g8, hb8⟩
  have hb9 := hb7.trans (hb8.mono hb7.size)
  have hn9 := hn7.keep hb8
  have hq9 : w.heap.size ≤ w2.heap.size := hb2.size
  generalize w2.heap.size = p at *
  have e2 : errOf (true && true) = 0 := rfl
  have e3 : ifL (true && true) (cutL (t.list.filter (isNear o (o + k))) o k) = cutL (t.list.filter (isNear o (o + k))) o k := rfl
  rw [e2]
  rw [e3] at g8
  clear e1 e2 e3 hb8 hn7 hb7 hE hm64 hNl hb5 hb4 hb3 hb2
  have hlen : m8 ≤ 3 := by
    have := g8.es.len
    rw [this]
    exact near_cut_len hr hm
  have h9 := h.below hb9
  have hT9 := tree_olden hT (S' := fun b => Nd w b a t) fun _ hb => hb
  replace hT9 := hT9.below hb9
  have hes := g8.es
  go_wp2_with fail
  obtain ⟨i0, hi0, hz0, hz1, hz2⟩ := tree_info
  have Hz := Lib.hid hz2
  clear hz2
  obtain ⟨v, k1, k2⟩ := h.row
  have hrowb := row_block k2
  obtain ⟨rA, rc, rfl, hrc1, hrc2, hrc3⟩ := own_form k2
  have hk1l := k1.lt
  have k18 := k1.keep hb9
  have k28 := own_keep k2 hb9
  have hpne : ∀ g, (Value.slice rA ls.length rc).ownBlock = some g → g ≠ p := fun g hg => by
    obtain ⟨-, cs, kk⟩ := hrowb g hg
    have := kk.lt
    omega
  have htis := turnT_is (t := t.olden) (lo := 0) (b := o) (e := (o + k)) (l := cutL (t.list.filter (isNear o (o + k))) o k) (Tr.olden_bal hbal) (by rw [Tr.olden_list]; exact hl) (by rw [← hes.len]; exact hlen)
  rw [Tr.olden_list, Tr.olden_deep, Tr.olden_fresh] at htis
  have HT := Lib.hid htis
  have hwl : IntKind.i64.wrap (((ls.length + 1 : Nat) : Int) - 1) = (ls.length : Int) := by rw [IntKind.wrap_i64]; omega
  have hpl := hn9.lt
  clear htis hrc1 hrc2 hrc3
  refine wp_region_noPanic ?_
  refine wp_region_held_drew (S := (fun w' => w'.cell? ⟨p, 0, none⟩ = some (.pointer a))) (by kernel_rfl) (hn9.cell rfl) (fun _ => ?_)
  refine wpAnyH_take (i := 0) (oi := _) (v := ?_) rfl (by kernel_rfl) (by kernel_rfl) (by kernel_rfl) (fun _ _ _ h => h) (Or.inl ⟨by kernel_rfl, ?_⟩) (hn9.cell rfl) ?_
  rotate_left
  · (rintro w s0; go_simp; (first | done | rfl))
  try simp only [Act.put, List.getElem_toArray, List.getElem_cons_zero, List.getElem_cons_succ, List.setIfInBounds_toArray, List.set_cons_zero, List.set_cons_succ]
  refine wpAnyH_take (i := 1) (oi := _) (v := ?_) rfl (by kernel_rfl) (by kernel_rfl) (by kernel_rfl) (fun _ _ _ h => h) (Or.inl ⟨by kernel_rfl, ?_⟩) (hn9.cell rfl) ?_
  rotate_left
  · (rintro w s0; go_simp; (first | done | rfl))
  try simp only [Act.put, List.getElem_toArray, List.getElem_cons_zero, List.getElem_cons_succ, List.setIfInBounds_toArray, List.set_cons_zero, List.set_cons_succ]
  refine wpAnyH_take (i := 2) (oi := _) (v := ?_) rfl (by kernel_rfl) (by kernel_rfl) (by kernel_rfl) (fun _ _ _ h => h) (Or.inl ⟨by kernel_rfl, ?_⟩) (hn9.cell rfl) ?_
  rotate_left
  · (rintro w s0; go_simp; (first | done | rfl))
  try simp only [Act.put, List.getElem_toArray, List.getElem_cons_zero, List.getElem_cons_succ, List.setIfInBounds_toArray, List.set_cons_zero, List.set_cons_succ]
  refine wpAnyH_take (i := 3) (oi := _) (v := ?_) rfl (by kernel_rfl) (by kernel_rfl) (by kernel_rfl) (fun _ _ _ h => h) (Or.inl ⟨by kernel_rfl, ?_⟩) (hn9.cell rfl) ?_
  rotate_left
  · (rintro w s0; go_simp; (first | done | rfl))
  try simp only [Act.put, List.getElem_toArray, List.getElem_cons_zero, List.getElem_cons_succ, List.setIfInBounds_toArray, List.set_cons_zero, List.set_cons_succ]
  refine wpAnyH_take (i := 5) (oi := _) (v := ?_) rfl (by kernel_rfl) (by kernel_rfl) (by kernel_rfl) (fun _ _ _ h => h) (Or.inl ⟨by kernel_rfl, ?_⟩) (hn9.cell rfl) ?_
  rotate_left
  · (rintro w s0; go_simp; (first | done | rfl))
  try simp only [Act.put, List.getElem_toArray, List.getElem_cons_zero, List.getElem_cons_succ, List.setIfInBounds_toArray, List.set_cons_zero, List.set_cons_succ]
  refine wpAnyH_take (i := 6) (oi := _) (v := ?_) rfl (by kernel_rfl) (by kernel_rfl) (by kernel_rfl) (fun _ _ _ h => h) (Or.inl ⟨by kernel_rfl, ?_⟩) (hn9.cell rfl) ?_
  rotate_left
  · (rintro w s0; go_simp; (first | done | rfl))
  try simp only [Act.put, List.getElem_toArray, List.getElem_cons_zero, List.getElem_cons_succ, List.setIfInBounds_toArray, List.set_cons_zero, List.set_cons_succ]
  refine wpAnyH_take (i := 7) (oi := _) (v := ?_) rfl (by kernel_rfl) (by kernel_rfl) (by kernel_rfl) (fun _ _ _ h => h) (Or.inl ⟨by kernel_rfl, ?_⟩) (hn9.cell rfl) ?_
  rotate_left
  · (rintro w s0; go_simp; (first | done | rfl))
  try simp only [Act.put, List.getElem_toArray, List.getElem_cons_zero, List.getElem_cons_succ, List.setIfInBounds_toArray, List.set_cons_zero, List.set_cons_succ]
  refine wpAnyH_take (i := 8) (oi := _) (v := ?_) rfl (by kernel_rfl) (by kernel_rfl) (by kernel_rfl) (fun _ _ _ h => h) (Or.inl ⟨by kernel_rfl, ?_⟩) (hn9.cell rfl) ?_
  rotate_left
  · (rintro w s0; go_simp; (first | done | rfl))
  try simp only [Act.put, List.getElem_toArray, List.getElem_cons_zero, List.getElem_cons_succ, List.setIfInBounds_toArray, List.set_cons_zero, List.set_cons_succ]
  refine wpAnyH_take (i := 9) (oi := _) (v := ?_) rfl (by kernel_rfl) (by kernel_rfl) (by kernel_rfl) (fun _ _ _ h => h) (Or.inl ⟨by kernel_rfl, ?_⟩) (hn9.cell rfl) ?_
  rotate_left
  · (rintro w s0; go_simp; (first | done | rfl))
  try simp only [Act.put, List.getElem_toArray, List.getElem_cons_zero, List.getElem_cons_succ, List.setIfInBounds_toArray, List.set_cons_zero, List.set_cons_succ]
  refine wpAnyH_take (i := 10) (oi := _) (v := ?_) rfl (by kernel_rfl) (by kernel_rfl) (by kernel_rfl) (fun _ _ _ h => h) (Or.inl ⟨by kernel_rfl, ?_⟩) (hn9.cell rfl) ?_
  rotate_left
  · (rintro w s0; go_simp; (first | done | rfl))
  try simp only [Act.put, List.getElem_toArray, List.getElem_cons_zero, List.getElem_cons_succ, List.setIfInBounds_toArray, List.set_cons_zero, List.set_cons_succ]
  refine wpAnyH_ready (rs := [4, 11]) (by kernel_rfl) (by simp) (AllReadyH.cons (o := _) rfl (fun K hK => ?_) (AllReadyH.cons (o := _) rfl (fun K hK => ?_) AllReadyH.nil))
  · rw [if_pos (by kernel_rfl)]
    have g1 : (w8.drew).cell? ⟨f, 1, none⟩ = some (.slice rA ls.length rc) := (k18.cell rfl)
    go_simp
    refine hK.out _ _ (hn9.cell rfl) (fun _ => ?_)
    clear hK K
    try simp only [Act.put, List.getElem_toArray, List.getElem_cons_zero, List.getElem_cons_succ, List.setIfInBounds_toArray, List.set_cons_zero, List.set_cons_succ]
    refine wpAnyH_ready (rs := [11]) (by kernel_rfl) (by simp) (AllReadyH.cons (o := _) rfl (fun K hK => ?_) AllReadyH.nil)
    rw [if_pos (by kernel_rfl)]
    refine wp_fn 77 _ _ rfl _ rfl enters_turn (tturn_ (fun b => Nd w b a t) t.olden a A8 m8 c8 _ o (o + k) hfb hfe (Tr.olden_bal hbal) (by rw [Tr.olden_list]; exact hl) (by rw [Tr.olden_size]; omega) hlen _ hT9.drew hes.drew) ?_
    rintro e wT ⟨aT, rfl, htT, hbT0⟩
    have hbT : Below w8.heap.size w8 wT := below_undrew hbT0
    refine ⟨_, rfl, ?_⟩
    refine hK.out _ _ ((hn9.keep hbT).cell rfl) (fun _ => ?_)
    clear hK K
    try simp only [Act.put, List.getElem_toArray, List.getElem_cons_zero, List.getElem_cons_succ, List.setIfInBounds_toArray, List.set_cons_zero, List.set_cons_succ]
    refine wpAnyH_ready (rs := [12]) (by kernel_rfl) (by simp) (AllReadyH.cons (o := _) rfl (fun K hK => ?_) AllReadyH.nil)
    rw [if_pos (by kernel_rfl)]
    go_simp
    refine hK.out _ _ ((hn9.keep (hbT.alloc hbT.size (.cells #[.pointer aT] 103))).cell rfl) (fun _ => ?_)
    clear hK K
    try simp only [Act.put, List.getElem_toArray, List.getElem_cons_zero, List.getElem_cons_succ, List.setIfInBounds_toArray, List.set_cons_zero, List.set_cons_succ]
    refine wpAnyH_ready (rs := [13]) (by kernel_rfl) (by simp) (AllReadyH.cons (o := _) rfl (fun K hK => ?_) AllReadyH.nil)
    rw [if_pos (by kernel_rfl)]
    refine wp_app _ (.tmp 50) (.tmp 58) 104 rfl B 103 i0 _ 1 8 Try.underlying104 hi0 hz0 hz1 Hz.out rfl Nat.one_pos (.slice rA ls.length rc) ls.length _ rfl (own_keep k28 (hbT.alloc hbT.size (.cells #[.pointer aT] 103))) (some ⟨wT.heap.size, 0, none⟩) 1 1 [.pointer aT] rfl (fun h => by cases h) (Rd.new wT #[.pointer aT] 103 (0, 0) rfl) (fun u hu => by rw [List.mem_singleton.1 hu]; rfl) (by unfold maxLen; omega) (by omega) (Nat.le_trans (Nat.le_trans hB hb9.size) (hbT.alloc hbT.size (.cells #[.pointer aT] 103)).size) ?_
    intro v5 w5 hown5 hg5 hat5
    have hmore := more_of h hB hfew k1 k2 ((hb9.trans (hbT.mono hb9.size)).alloc (Nat.le_trans hb9.size hbT.size) (.cells #[.pointer aT] 103)) (q := (a, t)) (htT.alloc _) HT.out.2.1 (HT.out.1.trans (turned_cut hr hm)) ((cut_is hr hm).1) (by have := HT.out.2.2; simp only [Nat.mul_zero, Nat.zero_add] at this; exact this) hown5 hg5
    obtain ⟨A5, c5, rfl, -, -, -⟩ := own_form hown5
    have kf5 : Blk w5 f 106 _ := (k18.keep (hbT.alloc hbT.size (.cells #[.pointer aT] 103))).grown hg5 (fun e => by obtain ⟨-, cs, kk⟩ := hrowb f e.symm; exact absurd (blk_type k1 kk) (by decide))
    have f5 := kf5.free 1
    have d5 := kf5.cell (j := 1) (u := (.slice rA ls.length rc)) rfl
    have hp5 : w5.cell? ⟨p, 0, none⟩ = some (.pointer a) := ((hn9.keep (hbT.alloc hbT.size (.cells #[.pointer aT] 103))).grown hg5 (fun e => hpne p e.symm rfl)).cell rfl
    clear hown5 hg5 hat5
    refine hK.out _ _ hp5 (fun _ => ?_)
    clear hK K
    try simp only [Act.put, List.getElem_toArray, List.getElem_cons_zero, List.getElem_cons_succ, List.setIfInBounds_toArray, List.set_cons_zero, List.set_cons_succ]
    refine wpAnyH_take (i := 14) (oi := _) (v := ?_) rfl (by kernel_rfl) (by kernel_rfl) (by kernel_rfl) (fun _ _ _ h => h) (Or.inl ⟨by kernel_rfl, ?_⟩) hp5 ?_
    rotate_left
    · (rintro w s0; go_simp; (first | done | rfl))
    try simp only [Act.put, List.getElem_toArray, List.getElem_cons_zero, List.getElem_cons_succ, List.setIfInBounds_toArray, List.set_cons_zero, List.set_cons_succ]
    refine wpAnyH_take (i := 15) (oi := _) (v := ?_) rfl (by kernel_rfl) (by kernel_rfl) (by kernel_rfl) (fun _ _ _ h => h) (Or.inl ⟨by kernel_rfl, ?_⟩) hp5 ?_
    rotate_left
    · (rintro w s0; go_simp; (first | done | rfl))
    try simp only [Act.put, List.getElem_toArray, List.getElem_cons_zero, List.getElem_cons_succ, List.setIfInBounds_toArray, List.set_cons_zero, List.set_cons_succ]
    refine wpAnyH_ready (rs := [16]) (by kernel_rfl) (by simp) (AllReadyH.cons (o := _) rfl (fun K hK => ?_) AllReadyH.nil)
    rw [if_pos (by kernel_rfl)]
    go_simp
    refine hK.out _ _ (by rw [World.cell?_setCell_far _ ⟨f, 1, none⟩ ⟨p, 0, none⟩ _ (by show f ≠ p; omega)]; exact hp5) (fun _ => ?_)
    clear hK K
    try simp only [Act.put, List.getElem_toArray, List.getElem_cons_zero, List.getElem_cons_succ, List.setIfInBounds_toArray, List.set_cons_zero, List.set_cons_succ]
    refine wpAnyH_done (by kernel_rfl) ?_ _
    refine NoPanic.normal ?_
    have d9 := (kf5.setCell 1 (.slice A5 (ls.length + 1) c5)).cell (j := 1) (u := .slice A5 (ls.length + 1) c5) rfl
    clear hT9 h9 h
    go_wp2
    go_ret2
    exact ⟨_, rfl, hmore⟩
  · rw [if_pos (by kernel_rfl)]
    refine wp_fn 77 _ _ rfl _ rfl enters_turn (tturn_ (fun b => Nd w b a t) t.olden a A8 m8 c8 _ o (o + k) hfb hfe (Tr.olden_bal hbal) (by rw [Tr.olden_list]; exact hl) (by rw [Tr.olden_size]; omega) hlen _ hT9.drew hes.drew) ?_
    rintro e wT ⟨aT, rfl, htT, hbT0⟩
    have hbT : Below w8.heap.size w8 wT := below_undrew hbT0
    refine ⟨_, rfl, ?_⟩
    refine hK.out _ _ ((hn9.keep hbT).cell rfl) (fun _ => ?_)
    clear hK K
    try simp only [Act.put, List.getElem_toArray, List.getElem_cons_zero, List.getElem_cons_succ, List.setIfInBounds_toArray, List.set_cons_zero, List.set_cons_succ]
    refine wpAnyH_ready (rs := [4, 12]) (by kernel_rfl) (by simp) (AllReadyH.cons (o := _) rfl (fun K hK => ?_) (AllReadyH.cons (o := _) rfl (fun K hK => ?_) AllReadyH.nil))
    · rw [if_pos (by kernel_rfl)]
      have g1 : (wT).cell? ⟨f, 1, none⟩ = some (.slice rA ls.length rc) := ((k18.keep hbT).cell rfl)
      go_simp
      refine hK.out _ _ ((hn9.keep hbT).cell rfl) (fun _ => ?_)
      clear hK K
      try simp only [Act.put, List.getElem_toArray, List.getElem_cons_zero, List.getElem_cons_succ, List.setIfInBounds_toArray, List.set_cons_zero, List.set_cons_succ]
      refine wpAnyH_ready (rs := [12]) (by kernel_rfl) (by simp) (AllReadyH.cons (o := _) rfl (fun K hK => ?_) AllReadyH.nil)
      rw [if_pos (by kernel_rfl)]
      go_simp
      refine hK.out _ _ ((hn9.keep (hbT.alloc hbT.size (.cells #[.pointer aT] 103))).cell rfl) (fun _ => ?_)
      clear hK K
      try simp only [Act.put, List.getElem_toArray, List.getElem_cons_zero, List.getElem_cons_succ, List.setIfInBounds_toArray, List.set_cons_zero, List.set_cons_succ]
      refine wpAnyH_ready (rs := [13]) (by kernel_rfl) (by simp) (AllReadyH.cons (o := _) rfl (fun K hK => ?_) AllReadyH.nil)
      rw [if_pos (by kernel_rfl)]
      refine wp_app _ (.tmp 50) (.tmp 58) 104 rfl B 103 i0 _ 1 8 Try.underlying104 hi0 hz0 hz1 Hz.out rfl Nat.one_pos (.slice rA ls.length rc) ls.length _ rfl (own_keep k28 (hbT.alloc hbT.size (.cells #[.pointer aT] 103))) (some ⟨wT.heap.size, 0, none⟩) 1 1 [.pointer aT] rfl (fun h => by cases h) (Rd.new wT #[.pointer aT] 103 (0, 0) rfl) (fun u hu => by rw [List.mem_singleton.1 hu]; rfl) (by unfold maxLen; omega) (by omega) (Nat.le_trans (Nat.le_trans hB hb9.size) (hbT.alloc hbT.size (.cells #[.pointer aT] 103)).size) ?_
      intro v5 w5 hown5 hg5 hat5
      have hmore := more_of h hB hfew k1 k2 ((hb9.trans (hbT.mono hb9.size)).alloc (Nat.le_trans hb9.size hbT.size) (.cells #[.pointer aT] 103)) (q := (a, t)) (htT.alloc _) HT.out.2.1 (HT.out.1.trans (turned_cut hr hm)) ((cut_is hr hm).1) (by have := HT.out.2.2; simp only [Nat.mul_zero, Nat.zero_add] at this; exact this) hown5 hg5
      obtain ⟨A5, c5, rfl, -, -, -⟩ := own_form hown5
      have kf5 : Blk w5 f 106 _ := (k18.keep (hbT.alloc hbT.size (.cells #[.pointer aT] 103))).grown hg5 (fun e => by obtain ⟨-, cs, kk⟩ := hrowb f e.symm; exact absurd (blk_type k1 kk) (by decide))
      have f5 := kf5.free 1
      have d5 := kf5.cell (j := 1) (u := (.slice rA ls.length rc)) rfl
      have hp5 : w5.cell? ⟨p, 0, none⟩ = some (.pointer a) := ((hn9.keep (hbT.alloc hbT.size (.cells #[.pointer aT] 103))).grown hg5 (fun e => hpne p e.symm rfl)).cell rfl
      clear hown5 hg5 hat5
      refine hK.out _ _ hp5 (fun _ => ?_)
      clear hK K
      try simp only [Act.put, List.getElem_toArray, List.getElem_cons_zero, List.getElem_cons_succ, List.setIfInBounds_toArray, List.set_cons_zero, List.set_cons_succ]
      refine wpAnyH_take (i := 14) (oi := _) (v := ?_) rfl (by kernel_rfl) (by kernel_rfl) (by kernel_rfl) (fun _ _ _ h => h) (Or.inl ⟨by kernel_rfl, ?_⟩) hp5 ?_
      rotate_left
      · (rintro w s0; go_simp; (first | done | rfl))
      try simp only [Act.put, List.getElem_toArray, List.getElem_cons_zero, List.getElem_cons_succ, List.setIfInBounds_toArray, List.set_cons_zero, List.set_cons_succ]
      refine wpAnyH_take (i := 15) (oi := _) (v := ?_) rfl (by kernel_rfl) (by kernel_rfl) (by kernel_rfl) (fun _ _ _ h => h) (Or.inl ⟨by kernel_rfl, ?_⟩) hp5 ?_
      rotate_left
      · (rintro w s0; go_simp; (first | done | rfl))
      try simp only [Act.put, List.getElem_toArray, List.getElem_cons_zero, List.getElem_cons_succ, List.setIfInBounds_toArray, List.set_cons_zero, List.set_cons_succ]
      refine wpAnyH_ready (rs := [16]) (by kernel_rfl) (by simp) (AllReadyH.cons (o := _) rfl (fun K hK => ?_) AllReadyH.nil)
      rw [if_pos (by kernel_rfl)]
      go_simp
      refine hK.out _ _ (by rw [World.cell?_setCell_far _ ⟨f, 1, none⟩ ⟨p, 0, none⟩ _ (by show f ≠ p; omega)]; exact hp5) (fun _ => ?_)
      clear hK K
      try simp only [Act.put, List.getElem_toArray, List.getElem_cons_zero, List.getElem_cons_succ, List.setIfInBounds_toArray, List.set_cons_zero, List.set_cons_succ]
      refine wpAnyH_done (by kernel_rfl) ?_ _
      refine NoPanic.normal ?_
      have d9 := (kf5.setCell 1 (.slice A5 (ls.length + 1) c5)).cell (j := 1) (u := .slice A5 (ls.length + 1) c5) rfl
      clear hT9 h9 h
      go_wp2
      go_ret2
      exact ⟨_, rfl, hmore⟩
    · rw [if_pos (by kernel_rfl)]
      go_simp
      refine hK.out _ _ ((hn9.keep (hbT.alloc hbT.size (.cells #[.pointer aT] 103))).cell rfl) (fun _ => ?_)
      clear hK K
      try simp only [Act.put, List.getElem_toArray, List.getElem_cons_zero, List.getElem_cons_succ, List.setIfInBounds_toArray, List.set_cons_zero, List.set_cons_succ]
      refine wpAnyH_ready (rs := [4]) (by kernel_rfl) (by simp) (AllReadyH.cons (o := _) rfl (fun K hK => ?_) AllReadyH.nil)
      rw [if_pos (by kernel_rfl)]
      have g1 : (wT.alloc (.cells #[.pointer aT] 103)).cell? ⟨f, 1, none⟩ = some (.slice rA ls.length rc) := ((k18.keep (hbT.alloc hbT.size (.cells #[.pointer aT] 103))).cell rfl)
      go_simp
      refine hK.out _ _ ((hn9.keep (hbT.alloc hbT.size (.cells #[.pointer aT] 103))).cell rfl) (fun _ => ?_)
      clear hK K
      try simp only [Act.put, List.getElem_toArray, List.getElem_cons_zero, List.getElem_cons_succ, List.setIfInBounds_toArray, List.set_cons_zero, List.set_cons_succ]
      refine wpAnyH_ready (rs := [13]) (by kernel_rfl) (by simp) (AllReadyH.cons (o := _) rfl (fun K hK => ?_) AllReadyH.nil)
      rw [if_pos (by kernel_rfl)]
      refine wp_app _ (.tmp 50) (.tmp 58) 104 rfl B 103 i0 _ 1 8 Try.underlying104 hi0 hz0 hz1 Hz.out rfl Nat.one_pos (.slice rA ls.length rc) ls.length _ rfl (own_keep k28 (hbT.alloc hbT.size (.cells #[.pointer aT] 103))) (some ⟨wT.heap.size, 0, none⟩) 1 1 [.pointer aT] rfl (fun h => by cases h) (Rd.new wT #[.pointer aT] 103 (0, 0) rfl) (fun u hu => by rw [List.mem_singleton.1 hu]; rfl) (by unfold maxLen; omega) (by omega) (Nat.le_trans (Nat.le_trans hB hb9.size) (hbT.alloc hbT.size (.cells #[.pointer aT] 103)).size) ?_
      intro v5 w5 hown5 hg5 hat5
      have hmore := more_of h hB hfew k1 k2 ((hb9.trans (hbT.mono hb9.size)).alloc (Nat.le_trans hb9.size hbT.size) (.cells #[.pointer aT] 103)) (q := (a, t)) (htT.alloc _) HT.out.2.1 (HT.out.1.trans (turned_cut hr hm)) ((cut_is hr hm).1) (by have := HT.out.2.2; simp only [Nat.mul_zero, Nat.zero_add] at this; exact this) hown5 hg5
      obtain ⟨A5, c5, rfl, -, -, -⟩ := own_form hown5
      have kf5 : Blk w5 f 106 _ := (k18.keep (hbT.alloc hbT.size (.cells #[.pointer aT] 103))).grown hg5 (fun e => by obtain ⟨-, cs, kk⟩ := hrowb f e.symm; exact absurd (blk_type k1 kk) (by decide))
      have f5 := kf5.free 1
      have d5 := kf5.cell (j := 1) (u := (.slice rA ls.length rc)) rfl
      have hp5 : w5.cell? ⟨p, 0, none⟩ = some (.pointer a) := ((hn9.keep (hbT.alloc hbT.size (.cells #[.pointer aT] 103))).grown hg5 (fun e => hpne p e.symm rfl)).cell rfl
      clear hown5 hg5 hat5
      refine hK.out _ _ hp5 (fun _ => ?_)
      clear hK K
      try simp only [Act.put, List.getElem_toArray, List.getElem_cons_zero, List.getElem_cons_succ, List.setIfInBounds_toArray, List.set_cons_zero, List.set_cons_succ]
      refine wpAnyH_take (i := 14) (oi := _) (v := ?_) rfl (by kernel_rfl) (by kernel_rfl) (by kernel_rfl) (fun _ _ _ h => h) (Or.inl ⟨by kernel_rfl, ?_⟩) hp5 ?_
      rotate_left
      · (rintro w s0; go_simp; (first | done | rfl))
      try simp only [Act.put, List.getElem_toArray, List.getElem_cons_zero, List.getElem_cons_succ, List.setIfInBounds_toArray, List.set_cons_zero, List.set_cons_succ]
      refine wpAnyH_take (i := 15) (oi := _) (v := ?_) rfl (by kernel_rfl) (by kernel_rfl) (by kernel_rfl) (fun _ _ _ h => h) (Or.inl ⟨by kernel_rfl, ?_⟩) hp5 ?_
      rotate_left
      · (rintro w s0; go_simp; (first | done | rfl))
      try simp only [Act.put, List.getElem_toArray, List.getElem_cons_zero, List.getElem_cons_succ, List.setIfInBounds_toArray, List.set_cons_zero, List.set_cons_succ]
      refine wpAnyH_ready (rs := [16]) (by kernel_rfl) (by simp) (AllReadyH.cons (o := _) rfl (fun K hK => ?_) AllReadyH.nil)
      rw [if_pos (by kernel_rfl)]
      go_simp
      refine hK.out _ _ (by rw [World.cell?_setCell_far _ ⟨f, 1, none⟩ ⟨p, 0, none⟩ _ (by show f ≠ p; omega)]; exact hp5) (fun _ => ?_)
      clear hK K
      try simp only [Act.put, List.getElem_toArray, List.getElem_cons_zero, List.getElem_cons_succ, List.setIfInBounds_toArray, List.set_cons_zero, List.set_cons_succ]
      refine wpAnyH_done (by kernel_rfl) ?_ _
      refine NoPanic.normal ?_
      have d9 := (kf5.setCell 1 (.slice A5 (ls.length + 1) c5)).cell (j := 1) (u := .slice A5 (ls.length + 1) c5) rfl
      clear hT9 h9 h
      go_wp2
      go_ret2
      exact ⟨_, rfl, hmore⟩
end
end Go.Proofs.Ytfcfffilfmbpeaa
