/- Layer 9: end, View. -/
import Derived.Test.YtfdfjnepfgabaaaDelE
import Derived.Test.YtfdfjnepfgabaaaBloW
set_option linter.all false
namespace Go.Proofs.Ytfdfjnepfgabaaa
open Go.RowKit Go.Shelf
attribute [local go_sem] Oper.semAt_some

/-- Where the last block of a list ends. -/
def endL (l : List Ext) : Int := match l.getLast? with | some x => x.off + x.len | none => 0
theorem endL_nil : endL [] = 0 := rfl
theorem endL_some {l : List Ext} {k : Nat} {x : Ext} (hx : l[k]? = some x) (hk : k + 1 = l.length) : endL l = x.off + x.len := by
  unfold endL
  rw [List.getLast?_eq_getElem?, show l.length - 1 = k by omega, hx]
theorem endL_ends : ∀ {l : List Ext} {lo : Int} (_ : listFrom lo l = true), endsB l (endL l)
  | [], _, _ => by simp [endsB]
  | [x], lo, h => by simp [endsB, endL]
  | x :: y :: l, lo, h => by
    rw [listFrom_cons] at h
    have ih := endL_ends h.2.2
    have e : endL (x :: y :: l) = endL (y :: l) := by simp [endL]
    rw [e]
    intro z hz
    rcases List.mem_cons.1 hz with rfl | hz
    · have h2 := listFrom_cons.1 h.2.2
      have h3 := may_len h2.1
      have := ih y (by simp)
      omega
    · exact ih z hz
section
variable (w : World)
set_option maxRecDepth 100000 in
set_option maxHeartbeats 1000000 in
theorem end_ (A : Option Addr) (n c : Nat) (l : List Ext) (h : Es w A n l) (hn : n ≤ 9223372036854775807) (hml : mays l) :
    Calls Try.prog 26 #[.slice A n c] w fun e w' => e = .returned (.int .i64 (endL l)) ∧ Below w.heap.size w w' := by
  have Hl := Lib.hid h.len
  by_cases h0 : n = 0
  · subst h0
    have He := Lib.hid (show endL l = 0 by rw [List.length_eq_zero_iff.1 Hl.out.symm]; rfl)
    go_enter Try.func26, Try.ntmps26
    go_wp2
    go_ret
    rw [He.out]
    exact ⟨rfl, Below.refl _ _⟩
  · obtain ⟨b, o, rfl, x, hx, fx, c0, c1, c2, c3⟩ := h.at_ (k := n - 1) (by omega)
    have hxl := may_len (hml x (List.mem_of_getElem? hx))
    have He := Lib.hid (endL_some hx (by have := Hl.out; omega))
    obtain ⟨k, hk⟩ : ∃ k, n = k + 1 := ⟨n - 1, by omega⟩
    subst hk
    simp only [Nat.add_sub_cancel] at c0 c1 c2 c3
    have hnz : ((((k + 1 : Nat) : Int) == 0)) = false := by simp; omega
    have hw1 : IntKind.i64.wrap ((k : Int) + 1 - 1) = (k : Int) := by rw [IntKind.wrap_i64]; omega
    have hw2 : IntKind.i64.wrap (((k + 1 : Nat) : Int) - 1) = (k : Int) := by rw [IntKind.wrap_i64]; omega
    have hk0 : (0 : Int) ≤ (k : Int) := by omega
    have hk1 : (k : Int) < ((k + 1 : Nat) : Int) := by omega
    have hw3 : IntKind.i64.wrap (x.off + x.len) = x.off + x.len := by rw [IntKind.wrap_i64]; omega
    have Hxl := Lib.hid hxl
    clear hx hxl h h0
    go_enter Try.func26, Try.ntmps26
    go_wp2
    go_ret
    rw [He.out]
    refine ⟨?_, (Below.refl _ _).alloc (Nat.le_refl _) _⟩
    first | rfl | rw [hw3]
end

/-! ### View -/
theorem show_low {u : List Nat} (h : ∀ z ∈ u, z < 18446744073709551616) (l : List Ext) (i : Int) : showF l u i < 18446744073709551616 := by
  unfold showF
  cases atL l i with
  | none => exact Nat.zero_lt_succ _
  | some v =>
    show unitOf u v.1 < _
    unfold unitOf
    split
    · unfold List.getD
      cases hq : u[v.1.toNat]? with
      | none => simp
      | some x => exact h x (List.mem_of_getElem? hq)
    · simp
def vwB (l : List Ext) (z : Int) : Bool := rightB l && decide (0 ≤ z) && decide (z ≤ 1024) && decide (endL l ≤ z)
def vwE (l : List Ext) (z : Int) : Int := if vwB l z then 0 else 1
def vwL (l : List Ext) (z : Int) (u : List Nat) : List Nat := if vwB l z then Blo.vol z.toNat (showF l u) else []
theorem view_no {w w' : World} {e : Ending} {l : List Ext} {z : Int} {u : List Nat} (h : vwB l z = false) (he : e = .returned (.tuple #[.slice none 0 0, .int .i64 1])) (hb : Below w.heap.size w w') : Blo.AnsN w w' e (vwE l z) (vwL l z u) := by
  unfold vwE vwL
  rw [h]
  exact ⟨none, 0, 0, he, Blo.GotN.no _ _, hb⟩
/-- The row that View makes. -/
abbrev vwA (N : Nat) (u : List Nat) (xs : List Bl) : Array Value := (nvs (Blo.vol N (laid (unitG u) (fun _ => 0) xs))).toArray
theorem vwA_set {N : Nat} {u : List Nat} {xs : List Bl} {p q x : Nat} {r : Int} (hq : q < u.length) (hx : u[q] = x) : (vwA N u xs).setIfInBounds p (.int .u64 (x : Int)) = vwA N u (xs ++ [((p : Int), (q : Int), r)]) := by
  refine Array.toList_inj.1 ?_
  rw [Array.toList_setIfInBounds, Blo.nvs_set]
  refine congrArg nvs (Blo.vol_set ?_)
  rw [laid_snoc]
  funext i
  unfold setF
  have : unitOf u (q : Int) = x := by
    unfold unitOf
    rw [if_pos (by omega), Int.toNat_natCast, ← hx]
    simp [hq]
  by_cases e : i = (p : Int)
  · rw [if_pos e, if_pos e]; unfold unitG; rw [if_pos (by simp; omega)]; exact this
  · rw [if_neg e, if_neg e]
theorem vwA_skip {N : Nat} {u : List Nat} {xs : List Bl} {p q : Nat} {r : Int} (hq : u.length ≤ q) : vwA N u (xs ++ [((p : Int), (q : Int), r)]) = vwA N u xs := by
  unfold vwA
  rw [laid_snoc]
  refine congrArg (fun f => (nvs (Blo.vol N f)).toArray) ?_
  funext i
  unfold setF
  by_cases e : i = (p : Int)
  · rw [if_pos e]; unfold unitG; rw [if_neg (by simp; omega)]
  · rw [if_neg e]
/-- Between two rounds of View's loop. -/
structure VwI (w : World) (g N : Nat) (U : Option Addr) (m d : Nat) (u : List Nat) (xs : List Bl) (W : World) : Prop where
  row : Blk W g 51 (vwA N u xs)
  var : Blk W (g + 1) 23 #[.slice (some ⟨g, 0, none⟩) N N]
  box : Blk W w.heap.size 23 #[.slice U m d]
  units : Ns W U m u
  below : Below w.heap.size w W
  size : g + 3 ≤ W.heap.size
theorem ns_lt {w : World} {A : Option Addr} {n : Nat} {l : List Nat} (h : Ns w A n l) : ∀ a, A = some a → 0 < n → a.block < w.heap.size := fun a e hn => by
  obtain ⟨b, o, e', hx, hc, _⟩ := h.at_ hn
  rw [e] at e'
  cases e'
  exact cell_lt hc
theorem Ns.sub {w w' : World} {row : Option Nat} {A : Option Addr} {n : Nat} {l : List Nat} (h : Ns w A n l) (hg : w.grownBy w' row) (hne : ∀ a, A = some a → 0 < n → some a.block ≠ row) : Ns w' A n l := by
  by_cases hn : 0 < n
  · exact h.grown hg fun a ha => hne a ha hn
  · have h0 : n = 0 := by omega
    subst h0
    have : l = [] := List.length_eq_zero_iff.1 h.len.symm
    subst this
    exact Ns.nil
theorem VwI.grown {w : World} {g N : Nat} {U : Option Addr} {m d : Nat} {u : List Nat} {xs : List Bl} {W W' : World} {row : Option Nat} (h : VwI w g N U m d u xs W) (hw : w.heap.size < g) (hu : ∀ a, U = some a → 0 < m → a.block < g) (hg : W.grownBy W' row) (hr : ∀ r, row = some r → g + 2 ≤ r) : VwI w g N U m d u xs W' :=
  ⟨h.row.grown hg (fun e => by have := hr _ e.symm; omega), h.var.grown hg (fun e => by have := hr _ e.symm; omega), h.box.grown hg (fun e => by have := hr _ e.symm; omega),
   Ns.sub h.units hg (fun a ha hn e => by have := hr _ e.symm; have := hu a ha hn; omega), h.below.grown hg h.below.size (fun r e => by have := hr _ e; omega), Nat.le_trans h.size hg.size⟩
theorem VwI.drew {w : World} {g N : Nat} {U : Option Addr} {m d : Nat} {u : List Nat} {xs : List Bl} {W : World} (h : VwI w g N U m d u xs W) : VwI w g N U m d u xs W.drew :=
  ⟨h.row, h.var, h.box, h.units, ⟨h.below.os, h.below.tape, h.below.output, h.below.size, h.below.block⟩, h.size⟩
section
variable (w : World)
set_option maxRecDepth 100000 in
set_option maxHeartbeats 2000000 in
theorem view_ (A : Option Addr) (n c : Nat) (l : List Ext) (z : Int) (U : Option Addr) (m d : Nat) (u : List Nat) (h : Es w A n l) (hn : n ≤ 9223372036854775807) (hz : I64 z) (hu : Ns w U m u) (hm : m ≤ 9223372036854775807) :
    Calls Try.prog 9 #[.slice A n c, .int .i64 z, .slice U m d] w fun e w' => Blo.AnsN w w' e (vwE l z) (vwL l z u) := by
  unfold I64 at hz
  obtain ⟨i1, hi1, hy0, hy1, hy2⟩ := u64_info
  have Hy := Lib.hid hy2
  clear hy2
  have h1 := h.alloc (.cells #[.slice U m d] 23)
  have hB1 : Below w.heap.size w (w.alloc (.cells #[.slice U m d] 23)) := (Below.refl _ _).alloc (Nat.le_refl _) _
  refine (callsIn_wide (n := 3)).1 (callsIn_of_wp_marks Try.func9 rfl trivial ?_ rfl)
  simp only [Try.ntmps9, List.size_toArray, List.length_cons, List.length_nil, Nat.reduceAdd, Nat.reduceSub, Array.replicate_succ, Array.replicate_zero, List.push_toArray, List.append_toArray, List.nil_append, List.cons_append]
  refine wpIn_wide.2 ?_
  go_wp2_with fail
  refine (right_ _ A n c l h1 hn).mono ?_
  cases hr : rightB l with
  | false =>
    rintro e w2 ⟨rfl, hb2⟩
    go_wp2
    refine marks0 (results_tmp2 rfl _ _ _) (view_no (by simp [vwB, hr]) rfl (below_step hB1 hb2 (Nat.le_refl _)))
  | true =>
    rintro e w2 ⟨rfl, hb2⟩
    have h2 := h1.below hb2
    have hB2 := below_step hB1 hb2 (Nat.le_refl _)
    have hml := mays_right hr
    by_cases hz0 : 0 ≤ z
    · by_cases hz1 : z ≤ 1024
      · go_wp2_with fail
        refine (end_ _ A n c l h2 hn hml).mono ?_
        rintro e w3 ⟨rfl, hb3⟩
        have h3 := h2.below hb3
        have hB3 := below_step hB2 hb3 (Nat.le_refl _)
        by_cases hz2 : endL l ≤ z
        · obtain ⟨N, rfl⟩ : ∃ N : Nat, z = (N : Int) := Int.eq_ofNat_of_zero_le hz0
          have Hend := Lib.hid (show endsB l (N : Int) from fun x hx => by have := endL_ends (right_is.1 hr).1 x hx; omega)
          have hN : N ≤ 1024 := by omega
          have Hok := Lib.hid (show vwB l (N : Int) = true by simp [vwB, hr]; omega)
          obtain ⟨g, hg⟩ : ∃ g, w3.heap.size = g := ⟨_, rfl⟩
          have hgn : w.heap.size < g := by have := hB1.size; have := hb2.size; have := hb3.size; simp at *; omega
          have hub : Below w.heap.size w w3 := hB3
          have hu3 := hu.below hub
          have c5 : Blk w3 w.heap.size 23 #[.slice U m d] := ((Blk.new w 23 #[.slice U m d] rfl).keep hb2).keep hb3
          clear h1 h2 hb2 hb3 hB1 hB2 hub
          go_wp2_with (first
            | (at_make
               refine wpList_make_blk _ rfl _ _ 23 rfl 51 i1 _ 1 8 Try.underlying23 hi1 hy0 hy1 Hy.out .i64 .i64 _ _ N rfl rfl rfl rfl (by omega) (by omega) ?_
               intro w4 hk4 hb4 hs4)
            | (go_at_call 27
               refine (each_ _ A n c).mono ?_
               rintro e w5 ⟨rfl, rfl⟩))
          have Hg := Lib.hid hg
          rw [hg] at hk4 hs4 hb4
          clear hg
          have hug : ∀ a, U = some a → 0 < m → a.block < g := fun a ha hm => by have := ns_lt hu3 a ha hm; have := Hg.out; omega
          have hag : ∀ a, A = some a → 0 < n → ¬ (a.block = g) := fun a ha hm => by have := es_lt h3 a ha hm; have := Hg.out; omega
          have h0 : VwI w g N U m d u [] ((w4.alloc (.cells #[.slice (some ⟨g, 0, none⟩) N N] 23)).alloc (.cells #[.slice A n c] 22)) := by
            have hb4' : Below w3.heap.size w3 w4 := by rw [Hg.out]; exact hb4
            refine ⟨((?_ : Blk w4 g _ _).alloc _).alloc _, (Blk.new w4 _ _ (by omega)).alloc _, (((c5 : Blk w3 _ _ _).keep hb4').alloc _).alloc _, ?_, ?_, by simp; omega⟩
            · rw [show vwA N u [] = madeCells (Value.int .u64 0).cells (N * 1) from Array.toList_inj.1 (by rw [Nat.mul_one]; exact (Blo.vol_zero N).trans (Blo.made_list N _).symm)]
              exact hk4
            · exact ((hu3.below hb4').below ((Below.refl _ _).alloc (Nat.le_refl _) _)).below ((Below.refl _ _).alloc (Nat.le_refl _) _)
            · exact ((hB3.trans (hb4'.mono hB3.size)).alloc (by have := hs4; omega) _).alloc (by simp; omega) _
          have he0 : Es ((w4.alloc (.cells #[.slice (some ⟨g, 0, none⟩) N N] 23)).alloc (.cells #[.slice A n c] 22)) A n l := ((h3.below (by rw [Hg.out]; exact hb4)).alloc _).alloc _
          have hc0 : ((w4.alloc (.cells #[.slice (some ⟨g, 0, none⟩) N N] 23)).alloc (.cells #[.slice A n c] 22)).cell? ⟨g + 1 + 1, 0, none⟩ = some (.slice A n c) := (Blk.new _ _ #[.slice A n c] (by simp; omega)).cell (j := 0) rfl
          have hs0 : ((w4.alloc (.cells #[.slice (some ⟨g, 0, none⟩) N N] 23)).alloc (.cells #[.slice A n c] 22)).heap.size = g + 3 := by simp; omega
          revert h0 he0 hc0 hs0
          generalize ((w4.alloc (.cells #[.slice (some ⟨g, 0, none⟩) N N] 23)).alloc (.cells #[.slice A n c] 22)) = W0
          intro h0 he0 hc0 hs0
          refine wpIn_wide.1 (wpIn_rangeFunc_ownH (n := 3) rfl (by omega) (gf := 47) (lb := #[.pointer (some ⟨g + 1 + 1, 0, none⟩)]) rfl trivial (enters_of Try.func47 (by kernel_rfl) rfl)
            (each_stops 2 N (fun k => k = g) A n c l W0 (g + 1 + 1) hml Hend.out hn hag (fun k hk => by omega) hc0 he0) (fun h k => h.trans k) (fun W l o o' _ h ho _ => Ko.putObj W l o o' h ho) (Below.refl _ _) (fun _ => rfl)
            (fun pre W => VwI w g N U m d u (bls pre) W) (fun _ _ _ => False)
            (fun s X Y row hs hgr hr => hs.grown hgn hug hgr fun r e => by have := (hr r e).1; omega) (fun _ _ _ _ _ hs _ _ => hs) h0
            (fun x a' W => ∃ Bx, g + 3 ≤ Bx ∧ Blk W Bx 69 #[.int .i64 x.1.1, .int .i64 x.1.2.1, .int .i64 x.1.2.2] ∧ a' = { tmps := #[Value.slice A n c, Value.int IntKind.i64 (N : Int), Value.slice U m d, undef, undef, Value.pointer (some { block := w.heap.size, off := 0 }), Value.slice none 0 0, Value.int IntKind.i64 0, Value.pointer (some { block := g + 1, off := 0 }), Value.pointer (some { block := Bx, off := 0 }), Value.slice A n c, Value.bool true, Value.bool false, Value.bool false, Value.int IntKind.i64 (N : Int), Value.bool (decide ((N : Int) < 0)), Value.bool (decide ((N : Int) < 0)), Value.bool (decide ((N : Int) < 0)), Value.int IntKind.i64 (N : Int), Value.bool (decide (1024 < (N : Int))), Value.bool (decide ((N : Int) < 0) || decide (1024 < (N : Int))), Value.bool (decide ((N : Int) < 0) || decide (1024 < (N : Int))), Value.slice A n c, Value.int IntKind.i64 (endL l), Value.int IntKind.i64 (N : Int), Value.bool (decide ((N : Int) < endL l)), Value.bool (decide ((N : Int) < 0) || decide (1024 < (N : Int)) || decide ((N : Int) < endL l)), Value.int IntKind.i64 (N : Int), Value.slice (some { block := g, off := 0 }) N N, Value.slice A n c, Value.func (Fn.func 47) #[] #[Value.pointer (some { block := g + 1 + 1, off := 0 })], Value.agg #[Value.int IntKind.i64 x.val.fst, Value.int IntKind.i64 x.val.snd.fst, Value.int IntKind.i64 x.val.snd.snd], undef, undef, undef, undef, undef, undef, undef, undef, undef, undef, undef, undef, undef, undef, undef], defers := [] })
            ?hAx ?assign ?body ?done ?stop)
          case hAx =>
            rintro x a' _ X Y row ⟨Bx, hBx, bX, e⟩ hgr hr
            refine ⟨Bx, hBx, bX.grown hgr fun e2 => ?_, e⟩
            obtain ⟨o, ho, hc⟩ := (hr _ e2.symm).2
            rw [show X.heap[Bx]? = _ from bX] at ho
            cases ho
            cases hc
          case assign =>
            intro l0 pre x W K hi hK
            gi_wp2
            exact hK _ _ ((KeepsOthers.alloc _ _).from _) (Ko.alloc _ _) (hi.grown hgn hug (World.grownBy_alloc _ _ none) fun r e => by cases e) ⟨W.heap.size, hi.size, Blk.new _ _ _ rfl, rfl⟩
          case body =>
            rintro l0 pre x a' W hl ⟨r, hr⟩ hi ⟨Bx, hBx, bX, rfl⟩ hlt
            obtain ⟨⟨xo, xu, xb⟩, hx0, hx1, hx2, hx3, hx4, hx5⟩ := x
            obtain ⟨p, hp⟩ := Int.eq_ofNat_of_zero_le hx0
            obtain ⟨q, hq⟩ := Int.eq_ofNat_of_zero_le hx2
            dsimp only at hp hq hx0 hx1 hx2 hx3 hx4 hx5 bX
            subst hp hq
            have d0 := bX.cell (j := 0) (u := .int .i64 (p : Int)) rfl
            have d1 := bX.cell (j := 1) (u := .int .i64 (q : Int)) rfl
            have d5 := hi.box.cell (j := 0) (u := .slice U m d) rfl
            have d8 := hi.var.cell (j := 0) (u := .slice (some ⟨g, 0, none⟩) N N) rfl
            by_cases hqm : q < m
            · have hqi : (q : Int) < (m : Int) := by omega
              obtain ⟨b, o, rfl, hxu, cu, hul⟩ := hi.units.at_ hqm
              have hpn : p < N := by omega
              have hrs : (vwA N u (bls pre)).size = N := by simp [vwA, nvs_length, Blo.vol_length]
              obtain ⟨rv, hrv⟩ : ∃ rv, (vwA N u (bls pre))[p]? = some rv := ⟨_, Array.getElem?_eq_getElem (by omega)⟩
              have hub := hug _ rfl (by omega)
              have hi2 : VwI w g N (some ⟨b, o, none⟩) m d u (bls pre ++ [((p : Int), (q : Int), xb)]) (W.setCell ⟨g, p, none⟩ (.int .u64 ((u[q] : Nat) : Int))) := by
                have hgr := grown_setCell W ⟨g, p, none⟩ (.int .u64 ((u[q] : Nat) : Int))
                refine ⟨?_, hi.var.grown hgr (fun e => by simp at e), hi.box.grown hgr (fun e => by simp at e; omega), Ns.sub hi.units hgr (fun a ha _ e => by simp at e; have := hug _ ha (by omega); omega), hi.below.grown hgr hi.below.size (fun r e => by cases e; simp; omega), Nat.le_trans hi.size hgr.size⟩
                have := hi.row.setCell p (.int .u64 ((u[q] : Nat) : Int))
                rw [vwA_set (r := xb) hxu rfl] at this
                exact this
              have bX2 := bX.grown (grown_setCell W ⟨g, p, none⟩ (.int .u64 ((u[q] : Nat) : Int))) (fun e => by simp at e; omega)
              have f0 : (W.setCell ⟨g, p, none⟩ (.int .u64 ((u[q] : Nat) : Int))).cell? ⟨Bx, 0, none⟩ = some (.int .i64 (p : Int)) := bX2.cell (j := 0) rfl
              have f1 : (W.setCell ⟨g, p, none⟩ (.int .u64 ((u[q] : Nat) : Int))).cell? ⟨Bx, 1, none⟩ = some (.int .i64 (q : Int)) := bX2.cell (j := 1) rfl
              have f5 : (W.setCell ⟨g, p, none⟩ (.int .u64 ((u[q] : Nat) : Int))).cell? ⟨w.heap.size, 0, none⟩ = some (.slice (some ⟨b, o, none⟩) m d) := hi2.box.cell (j := 0) rfl
              have f8 : (W.setCell ⟨g, p, none⟩ (.int .u64 ((u[q] : Nat) : Int))).cell? ⟨g + 1, 0, none⟩ = some (.slice (some ⟨g, 0, none⟩) N N) := hi2.var.cell (j := 0) rfl
              have fu : (W.setCell ⟨g, p, none⟩ (.int .u64 ((u[q] : Nat) : Int))).cell? ⟨b, o + q, none⟩ = some (.int .u64 ((u[q] : Nat) : Int)) := by
                obtain ⟨b', o', eb, _, cu', _⟩ := hi2.units.at_ hqm
                cases eb
                exact cu'
              have er : W.drew.cell? ⟨g, p, none⟩ = some rv := hi.row.cell hrv
              have ef : W.drew.frozen? ⟨g, p, none⟩ = false := hi.row.free p
              gi_wp2
              refine wpIn_region_held (S := (fun w0 => w0.cell? ⟨Bx, 0, none⟩ = some (.int .i64 (p : Int)) ∧ w0.cell? ⟨Bx, 1, none⟩ = some (.int .i64 (q : Int)) ∧ w0.cell? ⟨w.heap.size, 0, none⟩ = some (.slice (some ⟨b, o, none⟩) m d) ∧ w0.cell? ⟨g + 1, 0, none⟩ = some (.slice (some ⟨g, 0, none⟩) N N) ∧ w0.cell? ⟨b, o + q, none⟩ = some (.int .u64 ((u[q] : Nat) : Int)))) (by kernel_rfl) (noDefer_of (by kernel_rfl)) (by rintro ⟨_, _, h⟩; exact h) ?_
              refine wpAnyH_take (i := 0) (oi := _) (v := ?_) rfl (by kernel_rfl) (by kernel_rfl) (by kernel_rfl) (fun _ _ _ h => h) (Or.inl ⟨by kernel_rfl, ?_⟩) ⟨d0, d1, d5, d8, cu⟩ ?_
              rotate_left
              · (rintro w ⟨z0, z1, z5, z8, zu⟩; go_simp; (first | done | rfl))
              try simp only [Act.put, List.getElem_toArray, List.getElem_cons_zero, List.getElem_cons_succ, List.setIfInBounds_toArray, List.set_cons_zero, List.set_cons_succ]
              refine wpAnyH_take (i := 1) (oi := _) (v := ?_) rfl (by kernel_rfl) (by kernel_rfl) (by kernel_rfl) (fun _ _ _ h => h) (Or.inl ⟨by kernel_rfl, ?_⟩) ⟨d0, d1, d5, d8, cu⟩ ?_
              rotate_left
              · (rintro w ⟨z0, z1, z5, z8, zu⟩; go_simp; (first | done | rfl))
              try simp only [Act.put, List.getElem_toArray, List.getElem_cons_zero, List.getElem_cons_succ, List.setIfInBounds_toArray, List.set_cons_zero, List.set_cons_succ]
              refine wpAnyH_take (i := 2) (oi := _) (v := ?_) rfl (by kernel_rfl) (by kernel_rfl) (by kernel_rfl) (fun _ _ _ h => h) (Or.inl ⟨by kernel_rfl, ?_⟩) ⟨d0, d1, d5, d8, cu⟩ ?_
              rotate_left
              · (rintro w ⟨z0, z1, z5, z8, zu⟩; go_simp; (first | done | rfl))
              try simp only [Act.put, List.getElem_toArray, List.getElem_cons_zero, List.getElem_cons_succ, List.setIfInBounds_toArray, List.set_cons_zero, List.set_cons_succ]
              refine wpAnyH_take (i := 3) (oi := _) (v := ?_) rfl (by kernel_rfl) (by kernel_rfl) (by kernel_rfl) (fun _ _ _ h => h) (Or.inl ⟨by kernel_rfl, ?_⟩) ⟨d0, d1, d5, d8, cu⟩ ?_
              rotate_left
              · (rintro w ⟨z0, z1, z5, z8, zu⟩; go_simp; (first | done | rfl))
              try simp only [Act.put, List.getElem_toArray, List.getElem_cons_zero, List.getElem_cons_succ, List.setIfInBounds_toArray, List.set_cons_zero, List.set_cons_succ]
              refine wpAnyH_take (i := 4) (oi := _) (v := ?_) rfl (by kernel_rfl) (by kernel_rfl) (by kernel_rfl) (fun _ _ _ h => h) (Or.inl ⟨by kernel_rfl, ?_⟩) ⟨d0, d1, d5, d8, cu⟩ ?_
              rotate_left
              · (rintro w ⟨z0, z1, z5, z8, zu⟩; go_simp; (first | done | rfl))
              try simp only [Act.put, List.getElem_toArray, List.getElem_cons_zero, List.getElem_cons_succ, List.setIfInBounds_toArray, List.set_cons_zero, List.set_cons_succ]
              refine wpAnyH_take (i := 5) (oi := _) (v := ?_) rfl (by kernel_rfl) (by kernel_rfl) (by kernel_rfl) (fun _ _ _ h => h) (Or.inl ⟨by kernel_rfl, ?_⟩) ⟨d0, d1, d5, d8, cu⟩ ?_
              rotate_left
              · (rintro w ⟨z0, z1, z5, z8, zu⟩; go_simp; (first | done | rfl))
              try simp only [Act.put, List.getElem_toArray, List.getElem_cons_zero, List.getElem_cons_succ, List.setIfInBounds_toArray, List.set_cons_zero, List.set_cons_succ]
              refine wpAnyH_take (i := 6) (oi := _) (v := ?_) rfl (by kernel_rfl) (by kernel_rfl) (by kernel_rfl) (fun _ _ _ h => h) (Or.inl ⟨by kernel_rfl, ?_⟩) ⟨d0, d1, d5, d8, cu⟩ ?_
              rotate_left
              · (rintro w ⟨z0, z1, z5, z8, zu⟩; go_simp; (first | done | rfl))
              try simp only [Act.put, List.getElem_toArray, List.getElem_cons_zero, List.getElem_cons_succ, List.setIfInBounds_toArray, List.set_cons_zero, List.set_cons_succ]
              refine wpAnyH_take (i := 7) (oi := _) (v := ?_) rfl (by kernel_rfl) (by kernel_rfl) (by kernel_rfl) (fun _ _ _ h => h) (Or.inl ⟨by kernel_rfl, ?_⟩) ⟨d0, d1, d5, d8, cu⟩ ?_
              rotate_left
              · (rintro w ⟨z0, z1, z5, z8, zu⟩; go_simp; (first | done | rfl))
              try simp only [Act.put, List.getElem_toArray, List.getElem_cons_zero, List.getElem_cons_succ, List.setIfInBounds_toArray, List.set_cons_zero, List.set_cons_succ]
              refine wpAnyH_take (i := 8) (oi := _) (v := ?_) rfl (by kernel_rfl) (by kernel_rfl) (by kernel_rfl) (fun _ _ _ h => h) (Or.inl ⟨by kernel_rfl, ?_⟩) ⟨d0, d1, d5, d8, cu⟩ ?_
              rotate_left
              · (rintro w ⟨z0, z1, z5, z8, zu⟩; go_simp; (first | done | rfl))
              try simp only [Act.put, List.getElem_toArray, List.getElem_cons_zero, List.getElem_cons_succ, List.setIfInBounds_toArray, List.set_cons_zero, List.set_cons_succ]
              refine wpAnyH_ready (rs := [9]) (by kernel_rfl) (by simp) (AllReadyH.cons (o := _) rfl (fun K hK => ?_) AllReadyH.nil)
              rw [if_pos (by kernel_rfl)]
              go_simp
              refine hK.out _ _ ⟨f0, f1, f5, f8, fu⟩ (fun _ => ?_)
              clear hK K
              try simp only [Act.put, List.getElem_toArray, List.getElem_cons_zero, List.getElem_cons_succ, List.setIfInBounds_toArray, List.set_cons_zero, List.set_cons_succ]
              refine wpAnyH_done (by kernel_rfl) ?_ _
              refine ⟨((KeepsOthers.setCell _ _ _).trans (KeepsOthers.drew _)).from _, (Ko.setCell (T := fun k => k = g) (b := g) W p _ rfl).trans (Ko.drew _), ?_⟩
              dsimp only
              rw [bls_snoc]
              exact hi2.drew
            · have hqi : (m : Int) ≤ (q : Int) := by omega
              have hul : u.length ≤ q := by have := hi.units.len; omega
              gi_wp2
              refine ⟨KeepsFrom.refl _ _, Ko.refl _ _, ?_⟩
              dsimp only
              rw [bls_snoc]
              have e := vwA_skip (N := N) (xs := bls pre) (p := p) (r := xb) hul
              exact ⟨by rw [e]; exact hi.row, hi.var, hi.box, hi.units, hi.below, hi.size⟩
          case done =>
            rintro D xs W hD hxs hi hK
            rw [hxs] at hi
            have d8 := hi.var.cell (j := 0) (u := .slice (some ⟨g, 0, none⟩) N N) rfl
            have hKB : Below g W (W.putObj D (.deferred none)) := (Below.refl g W).grown (grownBy_putObj' W D _) (by have := hi.size; omega) (fun k e => by cases e; omega)
            have hgK := grownBy_putObj' W D (.deferred none)
            have hrow2 := hi.row.grown hgK (fun e => by cases e; omega)
            have HE := Lib.hid (show vwE l (N : Int) = 0 by unfold vwE; rw [Hok.out]; rfl)
            have HL := Lib.hid (show vwL l (N : Int) u = Blo.vol N (laid (unitG u) (fun _ => 0) (bkL l)) by unfold vwL; rw [Hok.out, laid_show (right_is.1 hr).1]; rfl)
            have hlow : Blo.low64 (laid (unitG u) (fun _ => 0) (bkL l)) := by
              rw [laid_show (right_is.1 hr).1]
              exact fun i => show_low hi.units.2 l i
            have hBD : Below w.heap.size w (W.putObj D (.deferred none)) := hi.below.trans (hKB.mono (by omega))
            go_wp2
            refine marks1 hK (results_tmp2 rfl _ _ _) ?_
            rw [HE.out, HL.out]
            exact ⟨some ⟨g, 0, none⟩, N, N, rfl, ⟨Blo.own_blk hrow2 (by omega) (by unfold maxLen; omega) rfl (by rw [nvs_length, Blo.vol_length]), Blo.vol_low hlow⟩, hBD⟩
          case stop =>
            rintro D cc pre W _ _ h _
            exact h.elim
        · have hz3 : z < endL l := by omega
          go_wp2
          refine marks0 (results_tmp2 rfl _ _ _) (view_no (by simp [vwB, hr]; omega) rfl hB3)
      · go_wp2
        refine marks0 (results_tmp2 rfl _ _ _) (view_no (by simp [vwB, hr]; omega) rfl hB2)
    · go_wp2
      refine marks0 (results_tmp2 rfl _ _ _) (view_no (by simp [vwB, hr]; omega) rfl hB2)
end
end Go.Proofs.Ytfdfjnepfgabaaa
