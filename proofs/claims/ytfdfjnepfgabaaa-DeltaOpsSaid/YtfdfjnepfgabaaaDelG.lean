/- Layer 9: right; young: which blocks have changed. -/
import Derived.Test.YtfdfjnepfgabaaaDelF
set_option linter.all false
namespace Go.Proofs.Ytfdfjnepfgabaaa
open Go.RowKit Go.Shelf
attribute [local go_sem] Oper.semAt_some

section
variable (w : World)
set_option maxRecDepth 100000 in
set_option maxHeartbeats 1000000 in
theorem dright_ (A B : Option Addr) (n c m d : Nat) (a b : List Ext) (ha : Es w A n a) (hb : Es w B m b) (hn : n ≤ 9223372036854775807) (hm : m ≤ 9223372036854775807) :
    Calls Try.prog 30 #[.slice A n c, .slice B m d] w fun e w' => e = .returned (.bool (rightB a && rightB b)) ∧ Below w.heap.size w w' := by
  go_enter Try.func30, Try.ntmps30
  go_wp2_with fail
  refine (right_ _ A n c a ha hn).mono ?_
  cases hr : rightB a with
  | false =>
    rintro e w2 ⟨rfl, hb2⟩
    go_wp2
    go_ret
    exact ⟨by rw [hr]; rfl, hb2⟩
  | true =>
    rintro e w2 ⟨rfl, hb2⟩
    go_wp2_with fail
    refine (right_ _ B m d b (hb.below hb2) hm).mono ?_
    rintro e w3 ⟨rfl, hb3⟩
    go_wp2
    go_ret
    exact ⟨by simp [hr], below_step hb2 hb3 (Nat.le_refl _)⟩
end

/-- Which blocks there are. -/
theorem info_1024 : (Try.prog.info? 97).map (fun i => i.zero) = some (some (.agg (List.replicate 1024 (Value.bool false)).toArray)) := by kernel_rfl
theorem arr_info : ∃ i, Try.prog.info? 97 = some i ∧ i.zero = some (.agg (List.replicate 1024 (Value.bool false)).toArray) := by
  have h := info_1024
  cases hi : Try.prog.info? 97 with
  | none => rw [hi] at h; cases h
  | some i => rw [hi] at h; exact ⟨i, rfl, Option.some.inj h⟩
def tva (n : Nat) (f : Nat → Bool) : Array Value := (Blo.tvs n f).toArray
theorem tva_size (n : Nat) (f : Nat → Bool) : (tva n f).size = n := by unfold tva; rw [List.size_toArray, Blo.tvs_length]
theorem tva_at {n i : Nat} (f : Nat → Bool) (h : i < n) : (tva n f)[i]? = some (.bool (f i)) := by unfold tva; rw [List.getElem?_toArray]; exact Blo.tvs_at f h
theorem tva_set {n p : Nat} {f f' : Nat → Bool} (b : Bool) (hf : f' = fun j => if j = p then b else f j) : (tva n f).setIfInBounds p (.bool b) = tva n f' := by
  unfold tva
  exact Array.toList_inj.1 (by rw [Array.toList_setIfInBounds]; exact Blo.tvs_set b hf)
theorem tva_zero (n : Nat) : (Value.agg (List.replicate n (Value.bool false)).toArray).cells = tva n fun _ => false := by
  show (List.replicate n (Value.bool false)).toArray = _
  rw [tva, Blo.tvs_false]
/-- Between two rounds of young's loops. -/
structure YgI (w : World) (g : Nat) (gen : Int) (f : Nat → Bool) (W : World) : Prop where
  row : Blk W g 97 (tva 1024 f)
  box : Blk W w.heap.size 3 #[.int .i64 gen]
  below : Below w.heap.size w W
  size : g + 1 ≤ W.heap.size
theorem YgI.grown {w : World} {g : Nat} {gen : Int} {f : Nat → Bool} {W W' : World} {row : Option Nat} (h : YgI w g gen f W) (hw : w.heap.size < g) (hg : W.grownBy W' row) (hr : ∀ r, row = some r → g + 1 ≤ r) : YgI w g gen f W' :=
  ⟨h.row.grown hg (fun e => by have := hr _ e.symm; omega), h.box.grown hg (fun e => by have := hr _ e.symm; omega), h.below.grown hg h.below.size (fun r e => by have := hr _ e; omega), Nat.le_trans h.size hg.size⟩
theorem YgI.set {w : World} {g : Nat} {gen : Int} {f f' : Nat → Bool} {W : World} (h : YgI w g gen f W) (hw : w.heap.size < g) {p : Nat} (b : Bool) (hf : f' = fun j => if j = p then b else f j) : YgI w g gen f' (W.setCell ⟨g, p, none⟩ (.bool b)) := by
  have hgr := grown_setCell W ⟨g, p, none⟩ (.bool b)
  refine ⟨?_, h.box.grown hgr (fun e => by simp at e; omega), h.below.grown hgr h.below.size (fun r e => by cases e; simp; omega), Nat.le_trans h.size hgr.size⟩
  have := h.row.setCell p (.bool b)
  rw [tva_set b hf] at this
  exact this
/-- What the loops lay. -/
abbrev yf1 (xs : List Bl) (i : Nat) : Bool := laid (fun _ _ => true) (fun _ => false) xs (i : Int)
abbrev yf2 (a : List Ext) (gen : Int) (xs : List Bl) (i : Nat) : Bool := laid (fun x _ => decide (gen < x.2.2)) (laid (fun _ _ => true) (fun _ => false) (bkL a)) xs (i : Int)
theorem yf1_snoc (xs : List Bl) (x : Bl) (p : Nat) (hp : x.1 = (p : Int)) : yf1 (xs ++ [x]) = fun j => if j = p then true else yf1 xs j := by
  funext j
  unfold yf1
  rw [laid_snoc]
  unfold setF
  by_cases e : j = p
  · rw [if_pos (by omega), if_pos e]
  · rw [if_neg (by omega), if_neg e]
theorem yf2_snoc (a : List Ext) (gen : Int) (xs : List Bl) (x : Bl) (p : Nat) (hp : x.1 = (p : Int)) : yf2 a gen (xs ++ [x]) = fun j => if j = p then decide (gen < x.2.2) else yf2 a gen xs j := by
  funext j
  unfold yf2
  rw [laid_snoc]
  unfold setF
  by_cases e : j = p
  · rw [if_pos (by omega), if_pos e]
  · rw [if_neg (by omega), if_neg e]
section
variable (w : World)
set_option maxRecDepth 100000 in
set_option maxHeartbeats 2000000 in
theorem young_ (A B : Option Addr) (n c m d : Nat) (a b : List Ext) (gen : Int) (ha : Es w A n a) (hb : Es w B m b) (hn : n ≤ 9223372036854775807) (hm : m ≤ 9223372036854775807) (hra : rightB a = true) (hrb : rightB b = true) :
    Calls Try.prog 31 #[.slice A n c, .slice B m d, .int .i64 gen] w fun e w' =>
      e = .returned (.func (.func 48) #[] #[.pointer (some ⟨w.heap.size + 1, 0, none⟩)]) ∧ Blk w' (w.heap.size + 1) 97 (tva 1024 (youngF a b gen)) ∧ Below w.heap.size w w' := by
  obtain ⟨i1, hi1, hz1⟩ := arr_info
  obtain ⟨g, hg⟩ : ∃ g, w.heap.size + 1 = g := ⟨_, rfl⟩
  rw [hg]
  have Hg := Lib.hid hg
  have hgn : w.heap.size < g := by omega
  refine (callsIn_wide (n := 3)).1 (callsIn_of_wp_marks Try.func31 rfl trivial ?_ rfl)
  simp only [Try.ntmps31, List.size_toArray, List.length_cons, List.length_nil, Nat.reduceAdd, Nat.reduceSub, Array.replicate_succ, Array.replicate_zero, List.push_toArray, List.append_toArray, List.nil_append, List.cons_append]
  refine wpIn_wide.2 ?_
  go_wp2_with (first
    | (refine wpList_alloc_blk _ rfl 97 rfl i1 _ hi1 hz1 ?_
       intro w3 hk3 hb3 hs3
       rw [tva_zero] at hk3)
    | (go_at_call 27
       refine (each_ _ A n c).mono ?_
       rintro e w5 ⟨rfl, rfl⟩))
  have hk4 : Blk w3 g 97 (tva 1024 fun _ => false) := by rw [← Hg.out]; simpa using hk3
  have hs4 : w3.heap.size = g + 1 := by rw [← Hg.out]; simpa using hs3
  have hbx : Below w.heap.size w (w.alloc (.cells #[.int .i64 gen] 3)) := (Below.refl _ _).alloc (Nat.le_refl _) _
  have hb4 : Below w.heap.size w w3 := hbx.trans (hb3.mono (by simp))
  have h0 : YgI w g gen (yf1 []) (w3.alloc (.cells #[.slice A n c] 22)) :=
    ⟨hk4.alloc _, ((Blk.new w 3 #[.int .i64 gen] rfl).keep hb3).alloc _, hb4.alloc (by omega) _, by simp; omega⟩
  have he0 : Es (w3.alloc (.cells #[.slice A n c] 22)) A n a := ((ha.below hb4).alloc _)
  have hc0 : (w3.alloc (.cells #[.slice A n c] 22)).cell? ⟨g + 1, 0, none⟩ = some (.slice A n c) := (Blk.new _ _ #[.slice A n c] hs4.symm).cell (j := 0) rfl
  have hs0 : (w3.alloc (.cells #[.slice A n c] 22)).heap.size = g + 2 := by simp; omega
  have hag : ∀ q, A = some q → 0 < n → ¬ (q.block = g) := fun q hq hn => by have := es_lt ha q hq hn; omega
  have hbg : ∀ q, B = some q → 0 < m → ¬ (q.block = g) := fun q hq hn => by have := es_lt hb q hq hn; omega
  clear hk3 hs3 hb3 hbx hk4 hb4
  revert h0 he0 hc0 hs0
  generalize (w3.alloc (.cells #[.slice A n c] 22)) = W0
  intro h0 he0 hc0 hs0
  clear hs4
  refine wpIn_wide.1 (wpIn_rangeFunc_ownH (n := 3) rfl (by omega) (gf := 47) (lb := #[.pointer (some ⟨g + 1, 0, none⟩)]) rfl trivial (enters_of Try.func47 (by kernel_rfl) rfl)
    (each_stops 2 1024 (fun k => k = g) A n c a W0 (g + 1) (mays_right hra) (list_ends (right_is.1 hra).1) hn hag (fun k hk => by omega) hc0 he0) (fun h k => h.trans k) (fun W l o o' _ h ho _ => Ko.putObj W l o o' h ho) (Below.refl _ _) (fun _ => rfl)
    (fun pre W => YgI w g gen (yf1 (bls pre)) W) (fun _ _ _ => False)
    (fun s X Y row hs hgr hr => hs.grown hgn hgr fun r e => by have := (hr r e).1; omega) (fun _ _ _ _ _ hs _ _ => hs) h0
    (fun x a' W => ∃ Bx, g + 1 ≤ Bx ∧ Blk W Bx 69 #[.int .i64 x.1.1, .int .i64 x.1.2.1, .int .i64 x.1.2.2] ∧ a' = { tmps := #[.slice A n c, .slice B m d, .int .i64 gen, undef, undef, .pointer (some ⟨w.heap.size, 0, none⟩), .nilFunc, .pointer (some ⟨g, 0, none⟩), .pointer (some ⟨Bx, 0, none⟩), undef, .slice A n c, .func (.func 47) #[] #[.pointer (some ⟨g + 1, 0, none⟩)], .agg #[.int .i64 x.1.1, .int .i64 x.1.2.1, .int .i64 x.1.2.2], undef, undef, undef, undef, undef, undef, undef, undef, undef, undef, undef, undef, undef, undef], defers := [] })
    ?hAx ?assign ?body ?done ?stop)
  case hAx =>
    rintro x a' _ X Y row ⟨Bx, hBx, bX, e⟩ hgr hr
    refine ⟨Bx, hBx, bX.grown hgr fun e2 => ?_, e⟩
    obtain ⟨o, ho, hc⟩ := (hr _ e2.symm).2
    rw [show X.heap[Bx]? = _ from bX] at ho
    cases ho
    cases hc
  case assign =>
    intro l0 pre x W K hi hK
    gi_wp2
    exact hK _ _ ((KeepsOthers.alloc _ _).from _) (Ko.alloc _ _) (hi.grown hgn (World.grownBy_alloc _ _ none) fun r e => by cases e) ⟨W.heap.size, hi.size, Blk.new _ _ _ rfl, rfl⟩
  case body =>
    rintro l0 pre x a' W hl ⟨r, hr⟩ hi ⟨Bx, hBx, bX, rfl⟩ hlt
    obtain ⟨⟨xo, xu, xb⟩, hx0, hx1, hx2, hx3, hx4, hx5⟩ := x
    obtain ⟨p, hp⟩ := Int.eq_ofNat_of_zero_le hx0
    dsimp only at hp hx0 hx1 hx2 hx3 hx4 hx5 bX
    subst hp
    have d0 := bX.cell (j := 0) (u := .int .i64 (p : Int)) rfl
    have hp1 : (p : Int) < 1024 := hx1
    have er : W.cell? ⟨g, p, none⟩ = some (.bool (yf1 (bls pre) p)) := hi.row.cell (tva_at _ (by omega))
    have ef : W.frozen? ⟨g, p, none⟩ = false := hi.row.free p
    have hi2 := hi.set hgn true (yf1_snoc (bls pre) ((p : Int), xu, xb) p rfl)
    gi_wp2
    refine ⟨(KeepsOthers.setCell _ _ _).from _, Ko.setCell (T := fun k => k = g) (b := g) W p _ rfl, ?_⟩
    dsimp only
    rw [bls_snoc]
    exact hi2
  case done =>
    rintro D xs W hD hxs hi hK
    rw [hxs] at hi
    have hDg : g < D := by omega
    clear h0 he0 hc0 hs0
    obtain ⟨h, hh⟩ : ∃ h, W.heap.size = h := ⟨_, rfl⟩
    go_wp2_with (first
      | (go_at_call 27
         refine (each_ _ B m d).mono ?_
         rintro e w5 ⟨rfl, rfl⟩))
    have hDl : D < h := by rw [← hh]; exact (Array.getElem?_eq_some_iff.1 hK).1
    have h0 : YgI w g gen (yf2 a gen []) (W.alloc (.cells #[.slice B m d] 22)) := hi.grown hgn (World.grownBy_alloc _ _ none) fun r e => by cases e
    have hK0 : (W.alloc (.cells #[.slice B m d] 22)).heap[D]? = some (.deferred (some [])) := (Below.heap_alloc _ _ _ (by omega)).trans hK
    have he0 : Es (W.alloc (.cells #[.slice B m d] 22)) B m b := (hb.below hi.below).alloc _
    have hc0 : (W.alloc (.cells #[.slice B m d] 22)).cell? ⟨h, 0, none⟩ = some (.slice B m d) := (Blk.new _ _ #[.slice B m d] hh.symm).cell (j := 0) rfl
    have hs0 : (W.alloc (.cells #[.slice B m d] 22)).heap.size = h + 1 := by simp; omega
    have hgh : g < h := by have := hi.size; omega
    clear hh hi hK
    revert h0 hK0 he0 hc0 hs0
    generalize (W.alloc (.cells #[.slice B m d] 22)) = W0
    intro h0 hK0 he0 hc0 hs0
    refine wpIn_wide.1 (wpIn_rangeFunc_ownH (n := 3) rfl (by omega) (gf := 47) (lb := #[.pointer (some ⟨h, 0, none⟩)]) rfl trivial (enters_of Try.func47 (by kernel_rfl) rfl)
      (each_stops 2 1024 (fun k => k = g) B m d b W0 h (mays_right hrb) (list_ends (right_is.1 hrb).1) hm hbg (fun k hk => by omega) hc0 he0) (fun h k => h.trans k) (fun W l o o' _ h ho _ => Ko.putObj W l o o' h ho) (Below.refl _ _) (fun _ => rfl)
      (fun pre W => YgI w g gen (yf2 a gen (bls pre)) W ∧ W.heap[D]? = some (.deferred (some []))) (fun _ _ _ => False)
      (fun s X Y row hs hgr hr => ⟨hs.1.grown hgn hgr fun r e => by have := (hr r e).1; omega, (hgr.block D (Array.getElem?_eq_some_iff.1 hs.2).1 (fun e => by have := (hr D e.symm).1; omega)).trans hs.2⟩) (fun _ _ _ _ _ hs _ _ => hs) ⟨h0, hK0⟩
      (fun x a' W => ∃ Bx, g + 1 ≤ Bx ∧ Blk W Bx 69 #[.int .i64 x.1.1, .int .i64 x.1.2.1, .int .i64 x.1.2.2] ∧ a' = { tmps := #[.slice A n c, .slice B m d, .int .i64 gen, undef, undef, .pointer (some ⟨w.heap.size, 0, none⟩), .nilFunc, .pointer (some ⟨g, 0, none⟩), undef, .pointer (some ⟨Bx, 0, none⟩), .slice A n c, .func (.func 47) #[] #[.pointer (some ⟨g + 1, 0, none⟩)], undef, undef, undef, undef, .slice B m d, .func (.func 47) #[] #[.pointer (some ⟨h, 0, none⟩)], .agg #[.int .i64 x.1.1, .int .i64 x.1.2.1, .int .i64 x.1.2.2], undef, undef, undef, undef, undef, undef, undef, undef], defers := [] })
      ?hAx2 ?assign2 ?body2 ?done2 ?stop2)
    case hAx2 =>
      rintro x a' _ X Y row ⟨Bx, hBx, bX, e⟩ hgr hr
      refine ⟨Bx, hBx, bX.grown hgr fun e2 => ?_, e⟩
      obtain ⟨o, ho, hc⟩ := (hr _ e2.symm).2
      rw [show X.heap[Bx]? = _ from bX] at ho
      cases ho
      cases hc
    case assign2 =>
      intro l0 pre x W K hi hK
      gi_wp2
      exact hK _ _ ((KeepsOthers.alloc _ _).from _) (Ko.alloc _ _) ⟨hi.1.grown hgn (World.grownBy_alloc _ _ none) (fun r e => by cases e), (Below.heap_alloc _ _ _ (Array.getElem?_eq_some_iff.1 hi.2).1).trans hi.2⟩ ⟨W.heap.size, hi.1.size, Blk.new _ _ _ rfl, rfl⟩
    case body2 =>
      rintro l0 pre x a' W hl ⟨r, hr⟩ ⟨hi, hKD⟩ ⟨Bx, hBx, bX, rfl⟩ hlt
      obtain ⟨⟨xo, xu, xb⟩, hx0, hx1, hx2, hx3, hx4, hx5⟩ := x
      obtain ⟨p, hp⟩ := Int.eq_ofNat_of_zero_le hx0
      dsimp only at hp hx0 hx1 hx2 hx3 hx4 hx5 bX
      subst hp
      have d0 := bX.cell (j := 0) (u := .int .i64 (p : Int)) rfl
      have d2 := bX.cell (j := 2) (u := .int .i64 xb) rfl
      have d5 := hi.box.cell (j := 0) (u := .int .i64 gen) rfl
      have hp1 : (p : Int) < 1024 := hx1
      have er : W.cell? ⟨g, p, none⟩ = some (.bool (yf2 a gen (bls pre) p)) := hi.row.cell (tva_at _ (by omega))
      have ef : W.frozen? ⟨g, p, none⟩ = false := hi.row.free p
      have hi2 := hi.set hgn (decide (gen < xb)) (yf2_snoc a gen (bls pre) ((p : Int), xu, xb) p rfl)
      gi_wp2
      refine ⟨(KeepsOthers.setCell _ _ _).from _, Ko.setCell (T := fun k => k = g) (b := g) W p _ rfl, ?_⟩
      dsimp only
      rw [bls_snoc]
      exact ⟨hi2, (KeepsOthers.setCell _ _ _).same _ _ hKD rfl⟩
    case done2 =>
      rintro E xs W hE hxs ⟨hi, hKD⟩ hKE
      rw [hxs] at hi
      have hy : yf2 a gen (bkL b) = youngF a b gen := funext fun i => laid_young (right_is.1 hra).1 (right_is.1 hrb).1 gen i
      rw [hy] at hi
      have hne : D ≠ E := by omega
      have hg1 := grownBy_putObj' W E (.deferred none)
      have hg2 := grownBy_putObj' (W.putObj E (.deferred none)) D (.deferred none)
      have hiz := hi.size
      have r2 := (hi.row.grown hg1 (fun e => by cases e; omega)).grown hg2 (fun e => by cases e; omega)
      have b2 := (hi.below.grown hg1 hi.below.size (fun r e => by cases e; omega)).grown hg2 (Nat.le_trans hi.below.size hg1.size) (fun r e => by cases e; omega)
      go_wp2
      refine marks2 hKE hKD hne (results_tmp rfl _ _ _) ?_
      exact ⟨rfl, r2, b2⟩
    case stop2 =>
      rintro D cc pre W _ _ h _
      exact h.elim
  case stop =>
    rintro D cc pre W _ _ h _
    exact h.elim
end
end Go.Proofs.Ytfdfjnepfgabaaa
