/- Layer 9: Grown: where each block of a list lies, as a map; whether all of another list fits. -/
import Derived.Test.YtfdfjnepfgabaaaDelL
import Derived.Maps.OwnIn
import Derived.Carry
set_option linter.all false
namespace Go.Proofs.Ytfdfjnepfgabaaa
open Go.RowKit Go.Shelf Go.Maps
attribute [local go_sem] Oper.semAt_some

def keyI (j : Int) : Lit := .int .i64 j
theorem keyI_ne {i j : Int} (h : i ≠ j) : keyI i ≠ keyI j := by
  intro e
  simp only [keyI, Lit.int.injEq, true_and] at e
  exact h e
theorem keyI_is (j : Int) : WideAt.IsKeyLit (keyI j) := trivial
/-- The datum D says where the blocks lie. -/
structure MgIs (D : DataW Unit) (c : Int → Option Int) : Prop where
  tidy : Maps.Tidy D
  has : ∀ j, Maps.has D (keyI j) = (c j).isSome
  at_ : ∀ j u, c j = some u → ∀ z, D.atKey (keyI j) z = .lit (.int .i64 u)
theorem MgIs.empty : MgIs (.map []) (fun _ => none) := ⟨Maps.tidy_empty, fun _ => rfl, fun _ _ h => (by cases h)⟩
theorem MgIs.put {D : DataW Unit} {c c' : Int → Option Int} (h : MgIs D c) (i u : Int) (hc : c' = fun j => if j = i then some u else c j) : MgIs (D.put (keyI i) (.lit (.int .i64 u))) c' where
  tidy := h.tidy.put (keyI_is i) _
  has j := by
    subst hc
    by_cases e : j = i
    · subst e; rw [Maps.has_put_same h.tidy.isMap (keyI_is j)]; simp
    · rw [Maps.has_put_other (keyI_ne e), h.has]; simp [e]
  at_ j v hv z := by
    subst hc
    by_cases e : j = i
    · subst e
      simp only [if_pos] at hv
      injection hv with hv
      subst hv
      exact Maps.atKey_put_same h.tidy.isMap (keyI_is j) _ z
    · simp only [if_neg e] at hv
      rw [Maps.atKey_put_other (keyI_ne e)]
      exact h.at_ j v hv z
/-- What the first loop lays. -/
abbrev gf1 (xs : List Bl) : Int → Option Int := laid (fun x _ => some x.2.1) (fun _ => none) xs
theorem gf1_snoc (xs : List Bl) (x : Bl) : gf1 (xs ++ [x]) = fun j => if j = x.1 then some x.2.1 else gf1 xs j := by
  unfold gf1
  rw [laid_snoc]
  rfl
theorem gf1_at {a : List Ext} {lo : Int} (h : listFrom lo a = true) (j : Int) : gf1 (bkL a) j = (atL a j).map Prod.fst := by
  unfold gf1
  rw [laid_bk _ h]
  unfold atG
  cases atL a j <;> rfl
/-- Whether a list has grown. -/
def grB (a b : List Ext) (gen : Int) : Bool := rightB a && rightB b && (bkL b).all fun y => grewB gen (atL a y.1) (some y.2)
theorem grB_iff {a b : List Ext} {gen : Int} : grB a b gen = true ↔ rightB a = true ∧ rightB b = true ∧ grownL a b gen := by
  unfold grB
  rw [Bool.and_eq_true_iff, Bool.and_eq_true_iff, and_assoc]
  constructor
  · rintro ⟨h1, h2, h3⟩
    exact ⟨h1, h2, (grown_iff (right_is.1 h2).1 (Int.le_refl 0) gen).2 fun y hy => List.all_eq_true.1 h3 y hy⟩
  · rintro ⟨h1, h2, h3⟩
    exact ⟨h1, h2, List.all_eq_true.2 fun y hy => (grown_iff (right_is.1 h2).1 (Int.le_refl 0) gen).1 h3 y hy⟩
theorem results_b {fn : Func} {W : World} {s q : Nat} {v : Bool} {tmps : Array Value} (h : fn.results = #[.cell s 4]) (h2 : tmps.getD s undef = .pointer (some ⟨q, 0, none⟩)) (hb : Blk W q 4 #[.bool v]) :
    (results fn tmps).run Try.prog W = .ok (.bool v) W := by
  have d0 := hb.cell (j := 0) rfl
  have h2' : tmps[s]?.getD undef = .pointer (some ⟨q, 0, none⟩) := by simpa using h2
  simp [results, h, h2', go_sem, d0]
/-- All fit; some does not. -/
def AllG (a : List Ext) (gen : Int) (l : List Bl) : Prop := ∀ y ∈ l, grewB gen (atL a y.1) (some y.2) = true
def BadG (a : List Ext) (gen : Int) (l : List Bl) : Prop := ∃ y ∈ l, grewB gen (atL a y.1) (some y.2) = false
theorem AllG.nil (a : List Ext) (gen : Int) : AllG a gen [] := fun y hy => by cases hy
theorem AllG.snoc {a : List Ext} {gen : Int} {l : List Bl} (h : AllG a gen l) {x : Bl} (hx : grewB gen (atL a x.1) (some x.2) = true) : AllG a gen (l ++ [x]) := fun y hy => by
  rcases List.mem_append.1 hy with hy | hy
  · exact h y hy
  · rw [List.mem_singleton.1 hy]; exact hx
theorem BadG.snoc (a : List Ext) (gen : Int) (l : List Bl) {x : Bl} (hx : grewB gen (atL a x.1) (some x.2) = false) : BadG a gen (l ++ [x]) := ⟨x, by simp, hx⟩
theorem AllG.all {a : List Ext} {gen : Int} {l : List Bl} (h : AllG a gen l) : (l.all fun y => grewB gen (atL a y.1) (some y.2)) = true := List.all_eq_true.2 h
theorem BadG.all {a : List Ext} {gen : Int} {l r : List Bl} (h : BadG a gen l) (hp : l <+: r) : (r.all fun y => grewB gen (atL a y.1) (some y.2)) = false := by
  obtain ⟨y, hy, hb⟩ := h
  cases hq : (r.all fun y => grewB gen (atL a y.1) (some y.2)) with
  | false => rfl
  | true => rw [List.all_eq_true.1 hq y (hp.subset hy)] at hb; cases hb
/-- Between two rounds of Grown's first loop. -/
structure GrI (w : World) (gm : Nat) (gen : Int) (c : Int → Option Int) (k : Nat) (W : World) : Prop where
  map_ : ∃ D, W.ownsMap (H := Unit) Try.prog 3 (plainElem Try.prog 3) gm k D ∧ MgIs D c
  var : Blk W (gm + 1) 86 #[.map (some gm)]
  res : ∃ b, Blk W (w.heap.size + 1) 4 #[.bool b]
  box : Blk W w.heap.size 3 #[.int .i64 gen]
  below : Below w.heap.size w W
  size : gm + 2 ≤ W.heap.size
theorem GrI.grown {w : World} {gm : Nat} {gen : Int} {c : Int → Option Int} {k : Nat} {W W' : World} {row : Option Nat} (h : GrI w gm gen c k W) (hw : w.heap.size + 2 ≤ gm) (hg : W.grownBy W' row) (hr : ∀ r, row = some r → gm + 2 ≤ r) : GrI w gm gen c k W' := by
  obtain ⟨D, h1, h2⟩ := h.map_
  obtain ⟨b, h3⟩ := h.res
  exact ⟨⟨D, h1.kept hg (fun e => by have := hr _ e.symm; omega), h2⟩, h.var.grown hg (fun e => by have := hr _ e.symm; omega), ⟨b, h3.grown hg (fun e => by have := hr _ e.symm; omega)⟩,
    h.box.grown hg (fun e => by have := hr _ e.symm; omega), h.below.grown hg h.below.size (fun r e => by have := hr _ e; omega), Nat.le_trans h.size hg.size⟩
section
variable (w : World)
set_option maxRecDepth 100000 in
set_option maxHeartbeats 4000000 in
theorem Grown_ (A B : Option Addr) (n c m d : Nat) (a b : List Ext) (gen : Int) (ha : Es w A n a) (hb : Es w B m b) (hn : n ≤ 9223372036854775807) (hm : m ≤ 9223372036854775807) :
    Calls Try.prog 17 #[.slice A n c, .slice B m d, .int .i64 gen] w fun e w' => e = .returned (.bool (grB a b gen)) ∧ Below w.heap.size w w' := by
  have hmm := @run_makeMap Try.prog
  refine (callsIn_wide (n := 4)).1 (callsIn_of_wp_marks Try.func17 rfl trivial ?_ rfl)
  simp only [Try.ntmps17, List.size_toArray, List.length_cons, List.length_nil, Nat.reduceAdd, Nat.reduceSub, Array.replicate_succ, Array.replicate_zero, List.push_toArray, List.append_toArray, List.nil_append, List.cons_append]
  refine wpIn_wide.2 ?_
  have hx0 : Below w.heap.size w ((w.alloc (.cells #[.int .i64 gen] 3)).alloc (.cells #[.bool false] 4)) := ((Below.refl _ _).alloc (Nat.le_refl _) _).alloc (by simp) _
  have ha1 := (ha.alloc (.cells #[.int .i64 gen] 3)).alloc (.cells #[.bool false] 4)
  have hb1 := (hb.alloc (.cells #[.int .i64 gen] 3)).alloc (.cells #[.bool false] 4)
  have k5 : Blk ((w.alloc (.cells #[.int .i64 gen] 3)).alloc (.cells #[.bool false] 4)) w.heap.size 3 #[.int .i64 gen] := (Blk.new w 3 #[.int .i64 gen] rfl).alloc _
  have k6 : Blk ((w.alloc (.cells #[.int .i64 gen] 3)).alloc (.cells #[.bool false] 4)) (w.heap.size + 1) 4 #[.bool false] := Blk.new _ 4 #[.bool false] (by simp)
  go_wp2_with fail
  refine (dright_ _ A B n c m d a b ha1 hb1 hn hm).mono ?_
  cases hr : (rightB a && rightB b) with
  | false =>
    rintro e w2 ⟨rfl, hb2⟩
    have HE := Lib.hid (show grB a b gen = false by unfold grB; rw [hr]; rfl)
    have j6 := k6.keep hb2
    have d6 := j6.cell (j := 0) (u := .bool false) rfl
    have e6 := j6.free 0
    have j7 := j6.setCell 0 (.bool false)
    have hB2 := (below_step hx0 hb2 (Nat.le_refl _)).setCell (p := ⟨w.heap.size + 1, 0, none⟩) (by simp) (.bool false)
    go_wp2
    refine marks0 (results_b rfl rfl j7) ?_
    rw [HE.out]
    exact ⟨rfl, hB2⟩
  | true =>
    rintro e w2 ⟨rfl, hb2⟩
    have hrr := Bool.and_eq_true_iff.1 hr
    have HE := Lib.hid (show grB a b gen = (bkL b).all fun y => grewB gen (atL a y.1) (some y.2) by unfold grB; rw [hr]; rfl)
    have j5 := k5.keep hb2
    have j6 := k6.keep hb2
    have ha2 := ha1.below hb2
    have hb3 := hb1.below hb2
    have hB2 := below_step hx0 hb2 (Nat.le_refl _)
    have hs2 := hb2.size
    simp only [World.size_alloc] at hs2
    clear k5 k6 ha1 hb1 hx0 hb2
    obtain ⟨gm, hgm⟩ : ∃ gm, w2.heap.size = gm := ⟨_, rfl⟩
    go_wp2_with (first
      | (go_at_call 27
         refine (each_ _ A n c).mono ?_
         rintro e w5 ⟨rfl, rfl⟩))
    have hmp0 := World.ownsMap_made w2 Try.prog 3 (plainElem (H := Unit) Try.prog 3)
    have hbm : Below w2.heap.size w2 (((w2.alloc (.map #[] 0)).alloc (.cells #[.map (some gm)] 86)).alloc (.cells #[.slice A n c] 22)) := (((Below.refl _ _).alloc (Nat.le_refl _) _).alloc (by simp) _).alloc (by simp; omega) _
    have h0 : GrI w gm gen (gf1 []) 0 (((w2.alloc (.map #[] 0)).alloc (.cells #[.map (some gm)] 86)).alloc (.cells #[.slice A n c] 22)) :=
      ⟨⟨_, by rw [← hgm]; exact (hmp0.alloc _).alloc _, MgIs.empty⟩, (Blk.new _ _ _ (by simp; omega)).alloc _, ⟨_, j6.keep hbm⟩, j5.keep hbm, hB2.trans (hbm.mono hB2.size), by simp; omega⟩
    have he0 : Es (((w2.alloc (.map #[] 0)).alloc (.cells #[.map (some gm)] 86)).alloc (.cells #[.slice A n c] 22)) A n a := ha2.below hbm
    have hc0 : (((w2.alloc (.map #[] 0)).alloc (.cells #[.map (some gm)] 86)).alloc (.cells #[.slice A n c] 22)).cell? ⟨gm + 1 + 1, 0, none⟩ = some (.slice A n c) := (Blk.new _ _ #[.slice A n c] (by simp; omega)).cell (j := 0) rfl
    have hs0 : (((w2.alloc (.map #[] 0)).alloc (.cells #[.map (some gm)] 86)).alloc (.cells #[.slice A n c] 22)).heap.size = gm + 3 := by simp; omega
    clear hmp0 hbm j5 j6 ha2 hmm
    have hgw : w.heap.size + 2 ≤ gm := by omega
    revert h0 he0 hc0 hs0
    generalize (((w2.alloc (.map #[] 0)).alloc (.cells #[.map (some gm)] 86)).alloc (.cells #[.slice A n c] 22)) = W0
    intro h0 he0 hc0 hs0
    have hma : (bkL a).length < maxLen := by
      have h1 := bkL_len (mays_right hrr.1)
      have h2 := right_short hrr.1
      unfold maxLen
      omega
    refine wpIn_wide.1 (wpIn_rangeFunc_ownH (n := 4) rfl (by omega) (gf := 47) (lb := #[.pointer (some ⟨gm + 1 + 1, 0, none⟩)]) rfl trivial (enters_of Try.func47 (by kernel_rfl) rfl)
      (each_stops 3 1024 (fun _ => False) A n c a W0 (gm + 1 + 1) (mays_right hrr.1) (list_ends (right_is.1 hrr.1).1) hn (fun _ _ _ h => h) (fun _ _ h => h) hc0 he0) (fun h k => h.trans k) (fun W l o o' _ h ho _ => Ko.putObj W l o o' h ho) (Below.refl _ _) (fun _ => rfl)
      (fun pre W => GrI w gm gen (gf1 (bls pre)) pre.length W) (fun _ _ _ => False)
      (fun s X Y row hs hgr hr => hs.grown hgw hgr fun r e => by have := (hr r e).1; omega) (fun _ _ _ _ _ hs _ _ => hs) h0
      (fun x a' W => ∃ Bx, gm + 2 ≤ Bx ∧ Blk W Bx 69 #[.int .i64 x.1.1, .int .i64 x.1.2.1, .int .i64 x.1.2.2] ∧ a' = { tmps := #[.slice A n c, .slice B m d, .int .i64 gen, undef, undef, .pointer (some ⟨w.heap.size, 0, none⟩), .pointer (some ⟨w.heap.size + 1, 0, none⟩), .pointer (some ⟨gm + 1, 0, none⟩), .pointer (some ⟨Bx, 0, none⟩), undef, undef, undef, .slice A n c, .slice B m d, .bool true, .bool false, .map (some gm), .slice A n c, .func (.func 47) #[] #[.pointer (some ⟨gm + 1 + 1, 0, none⟩)], .agg #[.int .i64 x.1.1, .int .i64 x.1.2.1, .int .i64 x.1.2.2], undef, undef, undef, undef, undef, undef, undef, undef, undef, undef, undef, undef, undef, undef, undef, undef, undef, undef, undef, undef, undef, undef, undef, undef, undef, undef, undef, undef, undef], defers := [] })
      ?hAx ?assign ?body ?done ?stop)
    case hAx =>
      rintro x a' _ X Y row ⟨Bx, hBx, bX, e⟩ hgr hr
      refine ⟨Bx, hBx, bX.grown hgr fun e2 => ?_, e⟩
      obtain ⟨o, ho, hc⟩ := (hr _ e2.symm).2
      rw [show X.heap[Bx]? = _ from bX] at ho
      cases ho
      cases hc
    case assign =>
      intro l0 pre x W K hi hK
      gi_wp2
      exact hK _ _ ((KeepsOthers.alloc _ _).from _) (Ko.alloc _ _) (hi.grown hgw (World.grownBy_alloc _ _ none) fun r e => by cases e) ⟨W.heap.size, hi.size, Blk.new _ _ _ rfl, rfl⟩
    case body =>
      rintro l0 pre x a' W hl ⟨r, hr⟩ hi ⟨Bx, hBx, bX, rfl⟩ hlt
      obtain ⟨⟨xo, xu, xb⟩, hx0, hx1, hx2, hx3, hx4, hx5⟩ := x
      dsimp only at hx0 hx1 hx2 hx3 hx4 hx5 bX
      have d0 := bX.cell (j := 0) (u := .int .i64 xo) rfl
      have d1 := bX.cell (j := 1) (u := .int .i64 xu) rfl
      have d7 := hi.var.cell (j := 0) (u := .map (some gm)) rfl
      obtain ⟨D, hown, hD⟩ := hi.map_
      have hkey : keyOf Try.prog 3 (.int .i64 xo) = some (keyI xo) := keyOf_int_mk Try.underlying3 (WalkArith.wf_i64 (by omega))
      have hpl : pre.length < maxLen := by omega
      have hD2 := hD.put xo xu (gf1_snoc (bls pre) (xo, xu, xb))
      gi_wp2_with (first
        | (gi_at_mapUpdate
           refine wpListIn_mapUpdate_own _ rfl _ _ _ 86 rfl 3 3 (int_keyed Try.underlying3) Try.underlying86 _ gm pre.length _ rfl hown hpl _ _ _ rfl rfl hkey _ [] (plainElem_int Try.underlying3 (WalkArith.wf_i64 (by omega))) ?_
           intro w1 hown1 hgrow1))
      obtain ⟨es, ck, hh, _⟩ := hown
      obtain ⟨rb, hrb⟩ := hi.res
      refine ⟨KeepsFrom.of_grownBy hgrow1 (fun j e => by cases e; omega), Ko.of_grown hgrow1 (fun r e => by cases e; exact .inr ⟨_, hh, rfl⟩), ?_⟩
      dsimp only
      rw [bls_snoc, List.length_append, List.length_singleton]
      exact ⟨⟨_, hown1, hD2⟩, hi.var.grown hgrow1 (fun e => by simp at e), ⟨rb, hrb.grown hgrow1 (fun e => by simp at e; omega)⟩, hi.box.grown hgrow1 (fun e => by simp at e; omega), hi.below.grown hgrow1 hi.below.size (fun r e => by cases e; omega), Nat.le_trans hi.size hgrow1.size⟩
    case done =>
      rintro D xs W hD hxs hi hK
      rw [hxs] at hi
      have hDg : gm + 3 ≤ D := by omega
      clear h0 he0 hc0 hs0
      generalize xs.length = kx at *
      obtain ⟨h, hh⟩ : ∃ h, W.heap.size = h := ⟨_, rfl⟩
      go_wp2_with (first
        | (go_at_call 27
           refine (each_ _ B m d).mono ?_
           rintro e w5 ⟨rfl, rfl⟩))
      have hDl : D < h := by rw [← hh]; exact (Array.getElem?_eq_some_iff.1 hK).1
      have h0 : GrI w gm gen (gf1 (bkL a)) kx (W.alloc (.cells #[.slice B m d] 22)) := hi.grown hgw (World.grownBy_alloc _ _ none) fun r e => by cases e
      have hK0 : (W.alloc (.cells #[.slice B m d] 22)).heap[D]? = some (.deferred (some [])) := (Below.heap_alloc _ _ _ (by omega)).trans hK
      have he0 : Es (W.alloc (.cells #[.slice B m d] 22)) B m b := (hb.below hi.below).alloc _
      have hc0 : (W.alloc (.cells #[.slice B m d] 22)).cell? ⟨h, 0, none⟩ = some (.slice B m d) := (Blk.new _ _ #[.slice B m d] hh.symm).cell (j := 0) rfl
      have hs0 : (W.alloc (.cells #[.slice B m d] 22)).heap.size = h + 1 := by simp; omega
      have hgh : gm < h := by have := hi.size; omega
      clear hh hi hK
      revert h0 hK0 he0 hc0 hs0
      generalize (W.alloc (.cells #[.slice B m d] 22)) = W0
      intro h0 hK0 he0 hc0 hs0
      refine wpIn_wide.1 (wpIn_rangeFunc_ownH (n := 4) rfl (by omega) (gf := 47) (lb := #[.pointer (some ⟨h, 0, none⟩)]) rfl trivial (enters_of Try.func47 (by kernel_rfl) rfl)
        (each_stops 3 1024 (fun _ => False) B m d b W0 h (mays_right hrr.2) (list_ends (right_is.1 hrr.2).1) hm (fun _ _ _ h => h) (fun _ _ h => h) hc0 he0) (fun h k => h.trans k) (fun W l o o' _ h ho _ => Ko.putObj W l o o' h ho) (Below.refl _ _) (fun _ => rfl)
        (fun pre W => (GrI w gm gen (gf1 (bkL a)) kx W ∧ W.heap[D]? = some (.deferred (some []))) ∧ AllG a gen (bls pre))
        (fun c pre W => (c = .ret ∧ BadG a gen (bls pre)) ∧ (Blk W (w.heap.size + 1) 4 #[.bool false] ∧ Below w.heap.size w W) ∧ W.heap[D]? = some (.deferred (some [])))
        (fun s X Y row hs hgr hr => ⟨⟨hs.1.1.grown hgw hgr fun r e => by have := (hr r e).1; omega, (hgr.block D (Array.getElem?_eq_some_iff.1 hs.1.2).1 (fun e => by have := (hr D e.symm).1; omega)).trans hs.1.2⟩, hs.2⟩)
        (fun cc s X Y row hs hgr hr => ⟨hs.1, ⟨hs.2.1.1.grown hgr (fun e => by have := (hr _ e.symm).1; omega), hs.2.1.2.grown hgr hs.2.1.2.size (fun r e => by have := (hr r e).1; omega)⟩, (hgr.block D (Array.getElem?_eq_some_iff.1 hs.2.2).1 (fun e => by have := (hr D e.symm).1; omega)).trans hs.2.2⟩)
        ⟨⟨h0, hK0⟩, AllG.nil _ _⟩
        (fun x a' W => ∃ Bx, gm + 2 ≤ Bx ∧ Blk W Bx 69 #[.int .i64 x.1.1, .int .i64 x.1.2.1, .int .i64 x.1.2.2] ∧ a' = { tmps := #[.slice A n c, .slice B m d, .int .i64 gen, undef, undef, .pointer (some ⟨w.heap.size, 0, none⟩), .pointer (some ⟨w.heap.size + 1, 0, none⟩), .pointer (some ⟨gm + 1, 0, none⟩), undef, .pointer (some ⟨Bx, 0, none⟩), undef, undef, .slice A n c, .slice B m d, .bool true, .bool false, .map (some gm), .slice A n c, .func (.func 47) #[] #[.pointer (some ⟨gm + 1 + 1, 0, none⟩)], undef, undef, undef, undef, undef, undef, .slice B m d, .func (.func 47) #[] #[.pointer (some ⟨h, 0, none⟩)], .agg #[.int .i64 x.1.1, .int .i64 x.1.2.1, .int .i64 x.1.2.2], undef, undef, undef, undef, undef, undef, undef, undef, undef, undef, undef, undef, undef, undef, undef, undef, undef, undef, undef, undef, undef], defers := [] })
        ?hAx2 ?assign2 ?body2 ?done2 ?stop2)
      case hAx2 =>
        rintro x a' _ X Y row ⟨Bx, hBx, bX, e⟩ hgr hr
        refine ⟨Bx, hBx, bX.grown hgr fun e2 => ?_, e⟩
        obtain ⟨o, ho, hc⟩ := (hr _ e2.symm).2
        rw [show X.heap[Bx]? = _ from bX] at ho
        cases ho
        cases hc
      case assign2 =>
        intro l0 pre x W K hi hK
        gi_wp2
        exact hK _ _ ((KeepsOthers.alloc _ _).from _) (Ko.alloc _ _) ⟨⟨hi.1.1.grown hgw (World.grownBy_alloc _ _ none) (fun r e => by cases e), (Below.heap_alloc _ _ _ (Array.getElem?_eq_some_iff.1 hi.1.2).1).trans hi.1.2⟩, hi.2⟩ ⟨W.heap.size, hi.1.1.size, Blk.new _ _ _ rfl, rfl⟩
      case body2 =>
        rintro l0 pre x a' W hl ⟨r, hr⟩ ⟨⟨hi, hKD⟩, hall⟩ ⟨Bx, hBx, bX, rfl⟩ hlt
        obtain ⟨⟨xo, xu, xb⟩, hx0, hx1, hx2, hx3, hx4, hx5⟩ := x
        dsimp only at hx0 hx1 hx2 hx3 hx4 hx5 bX
        have d0 := bX.cell (j := 0) (u := .int .i64 xo) rfl
        have d1 := bX.cell (j := 1) (u := .int .i64 xu) rfl
        have d2 := bX.cell (j := 2) (u := .int .i64 xb) rfl
        have d7 := hi.var.cell (j := 0) (u := .map (some gm)) rfl
        have d5 := hi.box.cell (j := 0) (u := .int .i64 gen) rfl
        obtain ⟨M, hown, hM⟩ := hi.map_
        obtain ⟨rb, hrb⟩ := hi.res
        have r0 := hrb.cell (j := 0) (u := .bool rb) rfl
        have r1 := hrb.free 0
        have hkey : keyOf Try.prog 3 (.int .i64 xo) = some (keyI xo) := keyOf_int_mk Try.underlying3 (WalkArith.wf_i64 (by omega))
        have hhas := hM.has xo
        have hgo := gf1_at (right_is.1 hrr.1).1 xo
        have hmem : grewB gen (atL a xo) (some (xu, xb)) = true → AllG a gen (bls pre ++ [(xo, xu, xb)]) := fun q => hall.snoc q
        have hbad : grewB gen (atL a xo) (some (xu, xb)) = false → BadG a gen (bls pre ++ [(xo, xu, xb)]) := fun q => BadG.snoc a gen _ q
        have hret : Blk (W.setCell ⟨w.heap.size + 1, 0, none⟩ (.bool false)) (w.heap.size + 1) 4 #[.bool false] ∧ Below w.heap.size w (W.setCell ⟨w.heap.size + 1, 0, none⟩ (.bool false)) := ⟨hrb.setCell 0 (.bool false), hi.below.setCell (p := ⟨w.heap.size + 1, 0, none⟩) (by simp) _⟩
        have hretD : (W.setCell ⟨w.heap.size + 1, 0, none⟩ (.bool false)).heap[D]? = some (.deferred (some [])) := (KeepsOthers.setCell _ _ _).same _ _ hKD rfl
        have Hmem := Lib.hid hmem
        have Hbad := Lib.hid hbad
        clear hmem hbad hall
        cases hat : atL a xo with
        | none =>
          rw [hat] at hgo Hmem Hbad
          rw [hgo] at hhas
          have hhas2 : Maps.has M (keyI xo) = false := hhas
          clear hhas hgo
          by_cases hbg : xb ≤ gen
          · have hbg2 : decide (xb ≤ gen) = true := decide_eq_true hbg
            gi_wp2_with (first
              | (gi_at_lookup
                 refine wpListIn_lookup_own_ok_int _ rfl _ _ 86 rfl 3 3 .i64 (int_keyed Try.underlying3) Try.underlying86 Try.underlying3 (Try.zeroValue3 _) gm kx M rfl hown _ _ rfl hkey ?_
                 intro cz hatc hwc
                 rw [hhas2]))
            refine ⟨(KeepsOthers.setCell _ _ _).from _, ⟨rfl, ?_⟩, hret, hretD⟩
            rw [bls_snoc]
            exact Hbad.out (by simp [grewB]; omega)
          · have hbg2 : decide (xb ≤ gen) = false := decide_eq_false hbg
            have hbg3 : gen < xb := by omega
            gi_wp2_with (first
              | (gi_at_lookup
                 refine wpListIn_lookup_own_ok_int _ rfl _ _ 86 rfl 3 3 .i64 (int_keyed Try.underlying3) Try.underlying86 Try.underlying3 (Try.zeroValue3 _) gm kx M rfl hown _ _ rfl hkey ?_
                 intro cz hatc hwc
                 rw [hhas2]))
            refine ⟨KeepsFrom.refl _ _, Ko.refl _ _, ⟨hi, hKD⟩, ?_⟩
            rw [bls_snoc]
            exact Hmem.out (by simp [grewB]; omega)
        | some v =>
          obtain ⟨q, rq⟩ := v
          rw [hat] at hgo Hmem Hbad
          rw [hgo] at hhas
          have hhas2 : Maps.has M (keyI xo) = true := hhas
          have hval := hM.at_ xo q (by rw [hgo]; rfl) (.lit (.int .i64 0))
          clear hhas hgo
          by_cases hbg : xb ≤ gen
          · have hbg2 : decide (xb ≤ gen) = true := decide_eq_true hbg
            by_cases hqu : q = xu
            · have hqu2 : (q != xu) = false := by simp [hqu]
              gi_wp2_with (first
                | (gi_at_lookup
                   refine wpListIn_lookup_own_ok_int _ rfl _ _ 86 rfl 3 3 .i64 (int_keyed Try.underlying3) Try.underlying86 Try.underlying3 (Try.zeroValue3 _) gm kx M rfl hown _ _ rfl hkey ?_
                   intro cz hatc hwc
                   rw [hval] at hatc
                   have hcz : cz = q := by simpa using hatc.symm
                   rw [hcz]
                   clear hatc hcz
                   rw [hhas2]))
              refine ⟨KeepsFrom.refl _ _, Ko.refl _ _, ⟨hi, hKD⟩, ?_⟩
              rw [bls_snoc]
              exact Hmem.out (by simp [grewB]; omega)
            · have hqu2 : (q != xu) = true := by simp [hqu]
              gi_wp2_with (first
                | (gi_at_lookup
                   refine wpListIn_lookup_own_ok_int _ rfl _ _ 86 rfl 3 3 .i64 (int_keyed Try.underlying3) Try.underlying86 Try.underlying3 (Try.zeroValue3 _) gm kx M rfl hown _ _ rfl hkey ?_
                   intro cz hatc hwc
                   rw [hval] at hatc
                   have hcz : cz = q := by simpa using hatc.symm
                   rw [hcz]
                   clear hatc hcz
                   rw [hhas2]))
              refine ⟨(KeepsOthers.setCell _ _ _).from _, ⟨rfl, ?_⟩, hret, hretD⟩
              rw [bls_snoc]
              exact Hbad.out (by simp [grewB]; omega)
          · have hbg2 : decide (xb ≤ gen) = false := decide_eq_false hbg
            have hbg3 : gen < xb := by omega
            gi_wp2_with (first
              | (gi_at_lookup
                 refine wpListIn_lookup_own_ok_int _ rfl _ _ 86 rfl 3 3 .i64 (int_keyed Try.underlying3) Try.underlying86 Try.underlying3 (Try.zeroValue3 _) gm kx M rfl hown _ _ rfl hkey ?_
                 intro cz hatc hwc
                 rw [hhas2]))
            refine ⟨KeepsFrom.refl _ _, Ko.refl _ _, ⟨hi, hKD⟩, ?_⟩
            rw [bls_snoc]
            exact Hmem.out (by simp [grewB]; omega)
      case done2 =>
        rintro E xs W hE hxs ⟨⟨hi, hKD⟩, hall⟩ hKE
        rw [hxs] at hall
        have hne : D ≠ E := by omega
        obtain ⟨rb, hrb⟩ := hi.res
        have r0 := hrb.cell (j := 0) (u := .bool rb) rfl
        have r1 := hrb.free 0
        have hr2 := hrb.setCell 0 (.bool true)
        have hB2 := hi.below.setCell (p := ⟨w.heap.size + 1, 0, none⟩) (by simp) (.bool true)
        have hKD2 : (W.setCell ⟨w.heap.size + 1, 0, none⟩ (.bool true)).heap[D]? = some (.deferred (some [])) := (KeepsOthers.setCell _ _ _).same _ _ hKD rfl
        have hKE2 : (W.setCell ⟨w.heap.size + 1, 0, none⟩ (.bool true)).heap[E]? = some (.deferred (some [])) := (KeepsOthers.setCell _ _ _).same _ _ hKE rfl
        have hall2 := hall.all
        have hDE : gm + 3 ≤ E := by omega
        go_wp2
        have hg1 := grownBy_putObj' (W.setCell ⟨w.heap.size + 1, 0, none⟩ (.bool true)) E (.deferred none)
        have hg2 := grownBy_putObj' ((W.setCell ⟨w.heap.size + 1, 0, none⟩ (.bool true)).putObj E (.deferred none)) D (.deferred none)
        have hr3 := (hr2.grown hg1 (fun e => by cases e; omega)).grown hg2 (fun e => by cases e; omega)
        have hB3 := (hB2.grown hg1 hB2.size (fun r e => by cases e; omega)).grown hg2 (Nat.le_trans hB2.size hg1.size) (fun r e => by cases e; omega)
        refine marks2 hKE2 hKD2 hne (results_b rfl rfl hr3) ?_
        rw [HE.out, hall2]
        exact ⟨rfl, hB3⟩
      case stop2 =>
        rintro E cc pre W hE hpre ⟨⟨rfl, hy⟩, ⟨hrb, hB⟩, hKD⟩ hKE
        have hbad2 := hy.all hpre
        have hne : D ≠ E := by omega
        have hDE : gm + 3 ≤ E := by omega
        have hg1 := grownBy_putObj' W E (.deferred none)
        have hg2 := grownBy_putObj' (W.putObj E (.deferred none)) D (.deferred none)
        have hr3 := (hrb.grown hg1 (fun e => by cases e; omega)).grown hg2 (fun e => by cases e; omega)
        have hB3 := (hB.grown hg1 hB.size (fun r e => by cases e; omega)).grown hg2 (Nat.le_trans hB.size hg1.size) (fun r e => by cases e; omega)
        refine wpIn_ret ?_
        refine marks2 hKE hKD hne (results_b rfl rfl hr3) ?_
        rw [HE.out, hbad2]
        exact ⟨rfl, hB3⟩
    case stop =>
      rintro D cc pre W _ _ h _
      exact h.elim
end
end Go.Proofs.Ytfdfjnepfgabaaa
