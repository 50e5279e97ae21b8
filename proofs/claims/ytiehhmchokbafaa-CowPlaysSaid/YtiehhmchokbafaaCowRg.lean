/- Layer 7: the document's Put and Cut; would. -/
import Derived.Test.YtiehhmchokbafaaCowRf
set_option linter.all false
namespace Go.Proofs.Ytiehhmchokbafaa
open Go.ChangeShapes Go.WideShapes Go.ChangeAt Go.RowKit

/-- Which error the document's Put, or Cut, answers. -/
def rE (tl : List (List Ext)) (z : Int) (ok : Bool) : Int := if 0 ≤ z ∧ z < tl.length then (if ok then 0 else 1) else 9
def RChg (w : World) (B r : Nat) (tl : List (List Ext)) (z : Int) (ok : Bool) (op : List Ext → List Ext) (e : Ending) (w' : World) : Prop :=
  (rE tl z ok ≠ 0 ∧ e = .returned (.tuple #[.int .i64 0, .int .i64 (rE tl z ok)]) ∧ Below w.heap.size w w') ∨
  (∃ (k : Nat) (l : List Ext), z = (k : Int) ∧ tl[k]? = some l ∧ ok = true ∧ e = .returned (.tuple #[.int .i64 (tl.length : Int), .int .i64 0]) ∧ RMore w w' B r tl (op l))
theorem RChg.back {w w1 w' : World} {B r : Nat} {tl : List (List Ext)} {z : Int} {ok : Bool} {op : List Ext → List Ext} {e : Ending} (h : RChg w1 B r tl z ok op e w') (hb : Below w.heap.size w w1) (hB : B ≤ w.heap.size) : RChg w B r tl z ok op e w' := by
  rcases h with ⟨h1, h2, h3⟩ | ⟨k, l, h1, h2, h3, h4, h5⟩
  · exact .inl ⟨h1, h2, hb.trans (h3.mono hb.size)⟩
  · exact .inr ⟨k, l, h1, h2, h3, h4, h5.back hb hB⟩
theorem RChg.form {w w' : World} {B r : Nat} {tl : List (List Ext)} {z : Int} {ok : Bool} {op : List Ext → List Ext} {e : Ending} (h : RChg w B r tl z ok op e w') : ∃ n er : Int, e = .returned (.tuple #[.int .i64 n, .int .i64 er]) := by
  rcases h with ⟨h1, h2, h3⟩ | ⟨k, l, h1, h2, h3, h4, h5⟩
  · exact ⟨_, _, h2⟩
  · exact ⟨_, _, h4⟩
theorem rE_no {tl : List (List Ext)} {z : Int} {ok : Bool} (h : ¬ (0 ≤ z ∧ z < tl.length)) : rE tl z ok = 9 := by unfold rE; rw [if_neg h]
theorem rE_yes {tl : List (List Ext)} {z : Int} {ok : Bool} (h : 0 ≤ z ∧ z < tl.length) : rE tl z ok = errOf ok := by unfold rE; rw [if_pos h]; cases ok <;> rfl
theorem enters_rput (vs : Array Value) (w : World) : (callFunc 50 vs).run Try.prog w = .ok (.enter 50 vs) w := by go_simp
section
variable (w : World) (B r : Nat) (tl : List (List Ext))
set_option maxRecDepth 100000 in
set_option maxHeartbeats 4000000 in
theorem rputF_ (h : Ro w B r tl) (hB : B ≤ w.heap.size) (hfew : tl.length < 100000) (z : Int) (x : Ext) (fx : Fit x) :
    Calls Try.prog 30 #[.pointer (some ⟨r, 0, none⟩), .int .i64 z, .agg #[.int .i64 x.off, .int .i64 x.len, .int .i64 x.phys, .int .i64 x.birth]] w (RChg w B r tl z x.may (fun l => putL l x)) := by
  obtain ⟨w1, hw1⟩ : ∃ w1, w1 = w.alloc (.cells #[.int .i64 x.off, .int .i64 x.len, .int .i64 x.phys, .int .i64 x.birth] 24) := ⟨_, rfl⟩
  have hb1 : Below w.heap.size w w1 := by rw [hw1]; exact (Below.refl _ _).alloc (Nat.le_refl _) _
  have hx : Blk w1 w.heap.size 24 (ea x) := by rw [hw1]; exact Blk.new _ _ _ rfl
  have h1 := h.below hb1
  have hhas := rhas_ w1 B r tl h1 z
  have hs1 := hb1.size
  by_cases hz : 0 ≤ z ∧ z < tl.length
  · rw [decide_eq_true hz] at hhas
    have He := Lib.hid (rE_yes (ok := x.may) hz)
    obtain ⟨k, rfl⟩ := Int.eq_ofNat_of_zero_le hz.1
    have hkl : k < tl.length := by omega
    have hki : (k : Int) < (tl.length : Int) := by omega
    obtain ⟨l, hl⟩ : ∃ l, tl[k]? = some l := ⟨_, List.getElem?_eq_getElem hkl⟩
    obtain ⟨b, c, c0, hc, cx⟩ := h1.slot
    obtain ⟨L, cl, hE, hle⟩ := cx k l hl
    obtain ⟨La, Lm, Lc⟩ := L
    have hrt := h.rights l (List.mem_of_getElem? hl)
    have d0 := hx.cell (j := 0) (u := .int .i64 x.off) rfl
    have d1 := hx.cell (j := 1) (u := .int .i64 x.len) rfl
    have d2 := hx.cell (j := 2) (u := .int .i64 x.phys) rfl
    have d3 := hx.cell (j := 3) (u := .int .i64 x.birth) rfl
    clear cx hz
    rw [hw1] at hhas
    go_enter Try.func30, Try.ntmps30
    go_wp2_with fail
    refine hhas.mono ?_
    rw [← hw1]
    rintro e w2 ⟨rfl, rfl⟩
    clear hw1 hhas
    go_wp2_with fail
    refine wp_region_noPanic ?_
    refine wp_region_held_drew (S := (fun w' => w'.cell? ⟨r, 0, none⟩ = some (.slice (some ⟨b, 0, none⟩) tl.length c) ∧ w'.cell? ⟨b, k, none⟩ = some (.slice La Lm Lc) ∧ w'.cell? ⟨w.heap.size, 0, none⟩ = some (.int .i64 x.off) ∧ w'.cell? ⟨w.heap.size, 1, none⟩ = some (.int .i64 x.len) ∧ w'.cell? ⟨w.heap.size, 2, none⟩ = some (.int .i64 x.phys) ∧ w'.cell? ⟨w.heap.size, 3, none⟩ = some (.int .i64 x.birth))) (by kernel_rfl) ⟨c0, cl, d0, d1, d2, d3⟩ (fun _ => ?_)
    refine wpAnyH_take (i := 0) (oi := _) (v := ?_) rfl (by kernel_rfl) (by kernel_rfl) (by kernel_rfl) (fun _ _ _ h => h) (Or.inl ⟨by kernel_rfl, ?_⟩) ⟨c0, cl, d0, d1, d2, d3⟩ ?_
    rotate_left
    · (rintro w ⟨s0, s1, s2, s3, s4, s5⟩; go_simp; (first | done | rfl))
    try simp only [Act.put, List.getElem_toArray, List.getElem_cons_zero, List.getElem_cons_succ, List.setIfInBounds_toArray, List.set_cons_zero, List.set_cons_succ]
    refine wpAnyH_take (i := 1) (oi := _) (v := ?_) rfl (by kernel_rfl) (by kernel_rfl) (by kernel_rfl) (fun _ _ _ h => h) (Or.inl ⟨by kernel_rfl, ?_⟩) ⟨c0, cl, d0, d1, d2, d3⟩ ?_
    rotate_left
    · (rintro w ⟨s0, s1, s2, s3, s4, s5⟩; go_simp; (first | done | rfl))
    try simp only [Act.put, List.getElem_toArray, List.getElem_cons_zero, List.getElem_cons_succ, List.setIfInBounds_toArray, List.set_cons_zero, List.set_cons_succ]
    refine wpAnyH_take (i := 2) (oi := _) (v := ?_) rfl (by kernel_rfl) (by kernel_rfl) (by kernel_rfl) (fun _ _ _ h => h) (Or.inl ⟨by kernel_rfl, ?_⟩) ⟨c0, cl, d0, d1, d2, d3⟩ ?_
    rotate_left
    · (rintro w ⟨s0, s1, s2, s3, s4, s5⟩; go_simp; (first | done | rfl))
    try simp only [Act.put, List.getElem_toArray, List.getElem_cons_zero, List.getElem_cons_succ, List.setIfInBounds_toArray, List.set_cons_zero, List.set_cons_succ]
    refine wpAnyH_take (i := 3) (oi := _) (v := ?_) rfl (by kernel_rfl) (by kernel_rfl) (by kernel_rfl) (fun _ _ _ h => h) (Or.inl ⟨by kernel_rfl, ?_⟩) ⟨c0, cl, d0, d1, d2, d3⟩ ?_
    rotate_left
    · (rintro w ⟨s0, s1, s2, s3, s4, s5⟩; go_simp; (first | done | rfl))
    try simp only [Act.put, List.getElem_toArray, List.getElem_cons_zero, List.getElem_cons_succ, List.setIfInBounds_toArray, List.set_cons_zero, List.set_cons_succ]
    refine wpAnyH_take (i := 4) (oi := _) (v := ?_) rfl (by kernel_rfl) (by kernel_rfl) (by kernel_rfl) (fun _ _ _ h => h) (Or.inl ⟨by kernel_rfl, ?_⟩) ⟨c0, cl, d0, d1, d2, d3⟩ ?_
    rotate_left
    · (rintro w ⟨s0, s1, s2, s3, s4, s5⟩; go_simp; (first | done | rfl))
    try simp only [Act.put, List.getElem_toArray, List.getElem_cons_zero, List.getElem_cons_succ, List.setIfInBounds_toArray, List.set_cons_zero, List.set_cons_succ]
    refine wpAnyH_take (i := 5) (oi := _) (v := ?_) rfl (by kernel_rfl) (by kernel_rfl) (by kernel_rfl) (fun _ _ _ h => h) (Or.inl ⟨by kernel_rfl, ?_⟩) ⟨c0, cl, d0, d1, d2, d3⟩ ?_
    rotate_left
    · (rintro w ⟨s0, s1, s2, s3, s4, s5⟩; go_simp; (first | done | rfl))
    try simp only [Act.put, List.getElem_toArray, List.getElem_cons_zero, List.getElem_cons_succ, List.setIfInBounds_toArray, List.set_cons_zero, List.set_cons_succ]
    refine wpAnyH_take (i := 6) (oi := _) (v := ?_) rfl (by kernel_rfl) (by kernel_rfl) (by kernel_rfl) (fun _ _ _ h => h) (Or.inl ⟨by kernel_rfl, ?_⟩) ⟨c0, cl, d0, d1, d2, d3⟩ ?_
    rotate_left
    · (rintro w ⟨s0, s1, s2, s3, s4, s5⟩; go_simp; (first | done | rfl))
    try simp only [Act.put, List.getElem_toArray, List.getElem_cons_zero, List.getElem_cons_succ, List.setIfInBounds_toArray, List.set_cons_zero, List.set_cons_succ]
    refine wpAnyH_take (i := 7) (oi := _) (v := ?_) rfl (by kernel_rfl) (by kernel_rfl) (by kernel_rfl) (fun _ _ _ h => h) (Or.inl ⟨by kernel_rfl, ?_⟩) ⟨c0, cl, d0, d1, d2, d3⟩ ?_
    rotate_left
    · (rintro w ⟨s0, s1, s2, s3, s4, s5⟩; go_simp; (first | done | rfl))
    try simp only [Act.put, List.getElem_toArray, List.getElem_cons_zero, List.getElem_cons_succ, List.setIfInBounds_toArray, List.set_cons_zero, List.set_cons_succ]
    refine wpAnyH_ready (rs := [8]) (by kernel_rfl) (by simp) (AllReadyH.cons (o := _) rfl (fun K hK => ?_) AllReadyH.nil)
    rw [if_pos (by kernel_rfl)]
    refine wp_fn 50 _ _ rfl _ rfl enters_rput (rput_ _ La Lm Lc l hE.drew hle x fx) ?_
    rw [hrt, Bool.true_and]
    rintro e w3 ⟨A3, m3, c3, rfl, g3, hb30⟩
    have hb3 : Below w1.heap.size w1 w3 := below_undrew hb30
    have o3 := g3.own
    refine ⟨_, rfl, ?_⟩
    refine hK.out _ _ ⟨(hb3.cell (cell_lt c0)).trans c0, (hb3.cell (cell_lt cl)).trans cl, (hb3.cell (cell_lt d0)).trans d0, (hb3.cell (cell_lt d1)).trans d1, (hb3.cell (cell_lt d2)).trans d2, (hb3.cell (cell_lt d3)).trans d3⟩ (fun _ => ?_)
    clear hK K
    try simp only [Act.put, List.getElem_toArray, List.getElem_cons_zero, List.getElem_cons_succ, List.setIfInBounds_toArray, List.set_cons_zero, List.set_cons_succ]
    refine wpAnyH_take (i := 9) (oi := _) (v := ?_) rfl (by kernel_rfl) (by kernel_rfl) (by kernel_rfl) (fun _ _ _ h => h) (Or.inl ⟨by kernel_rfl, ?_⟩) ⟨(hb3.cell (cell_lt c0)).trans c0, (hb3.cell (cell_lt cl)).trans cl, (hb3.cell (cell_lt d0)).trans d0, (hb3.cell (cell_lt d1)).trans d1, (hb3.cell (cell_lt d2)).trans d2, (hb3.cell (cell_lt d3)).trans d3⟩ ?_
    rotate_left
    · (rintro w ⟨s0, s1, s2, s3, s4, s5⟩; go_simp; (first | done | rfl))
    try simp only [Act.put, List.getElem_toArray, List.getElem_cons_zero, List.getElem_cons_succ, List.setIfInBounds_toArray, List.set_cons_zero, List.set_cons_succ]
    refine wpAnyH_take (i := 10) (oi := _) (v := ?_) rfl (by kernel_rfl) (by kernel_rfl) (by kernel_rfl) (fun _ _ _ h => h) (Or.inl ⟨by kernel_rfl, ?_⟩) ⟨(hb3.cell (cell_lt c0)).trans c0, (hb3.cell (cell_lt cl)).trans cl, (hb3.cell (cell_lt d0)).trans d0, (hb3.cell (cell_lt d1)).trans d1, (hb3.cell (cell_lt d2)).trans d2, (hb3.cell (cell_lt d3)).trans d3⟩ ?_
    rotate_left
    · (rintro w ⟨s0, s1, s2, s3, s4, s5⟩; go_simp; (first | done | rfl))
    try simp only [Act.put, List.getElem_toArray, List.getElem_cons_zero, List.getElem_cons_succ, List.setIfInBounds_toArray, List.set_cons_zero, List.set_cons_succ]
    refine wpAnyH_take (i := 11) (oi := _) (v := ?_) rfl (by kernel_rfl) (by kernel_rfl) (by kernel_rfl) (fun _ _ _ h => h) (Or.inl ⟨by kernel_rfl, ?_⟩) ⟨(hb3.cell (cell_lt c0)).trans c0, (hb3.cell (cell_lt cl)).trans cl, (hb3.cell (cell_lt d0)).trans d0, (hb3.cell (cell_lt d1)).trans d1, (hb3.cell (cell_lt d2)).trans d2, (hb3.cell (cell_lt d3)).trans d3⟩ ?_
    rotate_left
    · (rintro w ⟨s0, s1, s2, s3, s4, s5⟩; go_simp; (first | done | rfl))
    try simp only [Act.put, List.getElem_toArray, List.getElem_cons_zero, List.getElem_cons_succ, List.setIfInBounds_toArray, List.set_cons_zero, List.set_cons_succ]
    refine wpAnyH_take (i := 12) (oi := _) (v := ?_) rfl (by kernel_rfl) (by kernel_rfl) (by kernel_rfl) (fun _ _ _ h => h) (Or.inl ⟨by kernel_rfl, ?_⟩) ⟨(hb3.cell (cell_lt c0)).trans c0, (hb3.cell (cell_lt cl)).trans cl, (hb3.cell (cell_lt d0)).trans d0, (hb3.cell (cell_lt d1)).trans d1, (hb3.cell (cell_lt d2)).trans d2, (hb3.cell (cell_lt d3)).trans d3⟩ ?_
    rotate_left
    · (rintro w ⟨s0, s1, s2, s3, s4, s5⟩; go_simp; (first | done | rfl))
    try simp only [Act.put, List.getElem_toArray, List.getElem_cons_zero, List.getElem_cons_succ, List.setIfInBounds_toArray, List.set_cons_zero, List.set_cons_succ]
    refine wpAnyH_take (i := 13) (oi := _) (v := ?_) rfl (by kernel_rfl) (by kernel_rfl) (by kernel_rfl) (fun _ _ _ h => h) (Or.inl ⟨by kernel_rfl, ?_⟩) ⟨(hb3.cell (cell_lt c0)).trans c0, (hb3.cell (cell_lt cl)).trans cl, (hb3.cell (cell_lt d0)).trans d0, (hb3.cell (cell_lt d1)).trans d1, (hb3.cell (cell_lt d2)).trans d2, (hb3.cell (cell_lt d3)).trans d3⟩ ?_
    rotate_left
    · (rintro w ⟨s0, s1, s2, s3, s4, s5⟩; go_simp; (first | done | rfl))
    try simp only [Act.put, List.getElem_toArray, List.getElem_cons_zero, List.getElem_cons_succ, List.setIfInBounds_toArray, List.set_cons_zero, List.set_cons_succ]
    refine wpAnyH_done (by kernel_rfl) ?_ _
    refine NoPanic.normal ?_
    have hb13 := hb1.trans (hb3.mono hs1)
    have h3 := h1.below hb3
    cases hm : x.may with
    | false =>
      rw [hm] at o3 He
      have e9 : errOf false = 1 := rfl
      rw [e9] at He ⊢
      clear c0 cl d0 d1 d2 d3
      go_wp2_with fail
      refine (radds_no _ r (.int .i64 0) A3 m3 c3 1 (by decide)).mono ?_
      rintro e w4 ⟨rfl, rfl⟩
      go_wp2
      go_ret2
      rw [hm]
      exact .inl ⟨by rw [He.out]; decide, by rw [He.out]; rfl, hb13⟩
    | true =>
      rw [hm] at o3 He
      have e9 : errOf true = 0 := rfl
      have e8 : ifL true (putL l x) = putL l x := rfl
      rw [e9]
      rw [e8] at o3
      clear c0 cl d0 d1 d2 d3
      go_wp2_with fail
      refine (radds_ok _ B r tl h3 (Nat.le_trans hB hb13.size) hfew A3 m3 c3 (putL l x) (o3.mono (by show B ≤ w1.heap.size; omega)) (put_is hrt hm).1).mono ?_
      rintro e w4 ⟨rfl, hM⟩
      have hM2 := hM.back hb13 hB
      clear hM
      go_wp2
      go_ret2
      exact .inr ⟨k, l, rfl, hl, hm, rfl, hM2⟩
  · rw [decide_eq_false hz] at hhas
    have He := Lib.hid (rE_no (ok := x.may) hz)
    clear hz
    rw [hw1] at hhas
    go_enter Try.func30, Try.ntmps30
    go_wp2_with fail
    refine hhas.mono ?_
    rw [← hw1]
    rintro e w2 ⟨rfl, rfl⟩
    clear hw1 hhas
    go_wp2
    go_ret2
    exact .inl ⟨by rw [He.out]; decide, by rw [He.out]; rfl, hb1⟩
set_option maxRecDepth 100000 in
set_option maxHeartbeats 4000000 in
theorem rcutF_ (h : Ro w B r tl) (hB : B ≤ w.heap.size) (hfew : tl.length < 100000) (z : Int) (o n : Int) (fo : I64 o) (fn : I64 n) :
    Calls Try.prog 31 #[.pointer (some ⟨r, 0, none⟩), .int .i64 z, .int .i64 o, .int .i64 n] w (RChg w B r tl z (rangeB o n) (fun l => cutL l o n)) := by
  have hhas := rhas_ w B r tl h z
  by_cases hz : 0 ≤ z ∧ z < tl.length
  · rw [decide_eq_true hz] at hhas
    have He := Lib.hid (rE_yes (ok := rangeB o n) hz)
    obtain ⟨k, rfl⟩ := Int.eq_ofNat_of_zero_le hz.1
    have hkl : k < tl.length := by omega
    have hki : (k : Int) < (tl.length : Int) := by omega
    obtain ⟨l, hl⟩ : ∃ l, tl[k]? = some l := ⟨_, List.getElem?_eq_getElem hkl⟩
    obtain ⟨b, c, c0, hc, cx⟩ := h.slot
    obtain ⟨L, cl, hE, hle⟩ := cx k l hl
    obtain ⟨La, Lm, Lc⟩ := L
    have hrt := h.rights l (List.mem_of_getElem? hl)
    clear cx hz
    go_enter Try.func31, Try.ntmps31
    go_wp2_with fail
    refine hhas.mono ?_
    rintro e w2 ⟨rfl, rfl⟩
    clear hhas
    go_wp2_with fail
    refine (rcut_ w La Lm Lc l hE hle o n fo fn).mono ?_
    rw [hrt, Bool.true_and]
    rintro e w3 ⟨A3, m3, c3, rfl, g3, hb3⟩
    have o3 := g3.own
    have h3 := h.below hb3
    cases hm : rangeB o n with
    | false =>
      rw [hm] at o3 He
      have e9 : errOf false = 1 := rfl
      rw [e9] at He ⊢
      clear c0 cl
      go_wp2_with fail
      refine (radds_no _ r (.int .i64 0) A3 m3 c3 1 (by decide)).mono ?_
      rintro e w4 ⟨rfl, rfl⟩
      go_wp2
      go_ret2
      rw [hm]
      exact .inl ⟨by rw [He.out]; decide, by rw [He.out]; rfl, hb3⟩
    | true =>
      rw [hm] at o3 He
      have e9 : errOf true = 0 := rfl
      have e8 : ifL true (cutL l o n) = cutL l o n := rfl
      rw [e9]
      rw [e8] at o3
      clear c0 cl
      go_wp2_with fail
      refine (radds_ok _ B r tl h3 (Nat.le_trans hB hb3.size) hfew A3 m3 c3 (cutL l o n) (o3.mono hB) (cut_is hrt hm).1).mono ?_
      rintro e w4 ⟨rfl, hM⟩
      have hM2 := hM.back hb3 hB
      clear hM
      go_wp2
      go_ret2
      exact .inr ⟨k, l, rfl, hl, hm, rfl, hM2⟩
  · rw [decide_eq_false hz] at hhas
    have He := Lib.hid (rE_no (ok := rangeB o n) hz)
    clear hz
    go_enter Try.func31, Try.ntmps31
    go_wp2_with fail
    refine hhas.mono ?_
    rintro e w2 ⟨rfl, rfl⟩
    clear hhas
    go_wp2
    go_ret2
    exact .inl ⟨by rw [He.out]; decide, by rw [He.out]; rfl, Below.refl _ _⟩
set_option maxRecDepth 100000 in
set_option maxHeartbeats 2000000 in
theorem would_ (h : Ro w B r tl) (hB : B ≤ w.heap.size) (hfew : tl.length < 100000) (kd : Nat) (z : Int) (x : Ext) (hk : kd < 256) (fx : Fit x) :
    Calls Try.prog 14 #[.pointer (some ⟨r, 0, none⟩), .agg #[.int .u8 (kd : Int), .int .i64 z, .int .i64 x.off, .int .i64 x.len, .int .i64 x.phys, .int .i64 x.birth]] w (RChg w B r tl z (actOk kd x) (actOp kd x)) := by
  obtain ⟨w1, hw1⟩ : ∃ w1, w1 = w.alloc (.cells (actC kd z x) 26) := ⟨_, rfl⟩
  have hb1 : Below w.heap.size w w1 := by rw [hw1]; exact (Below.refl _ _).alloc (Nat.le_refl _) _
  have h1 := h.below hb1
  by_cases c : kd % 2 = 0
  · have q := mod2 c
    have Ho := Lib.hid (show actOk kd x = x.may by unfold actOk; rw [if_pos c])
    have Hp := Lib.hid (show actOp kd x = fun l => putL l x by funext l; unfold actOp; rw [if_pos c])
    clear c
    have hc := rputF_ w1 B r tl h1 (Nat.le_trans hB hb1.size) hfew z x fx
    rw [hw1] at hc
    unfold actC at hc hw1
    go_enter Try.func14, Try.ntmps14
    go_wp2_with fail
    refine hc.mono ?_
    rw [← hw1]
    intro e w2 hC
    have hC2 := hC.back hb1 hB
    obtain ⟨n, er, rfl⟩ := hC.form
    clear hC hc h h1
    go_wp2
    go_ret2
    rw [Ho.out, Hp.out]
    exact hC2
  · have q := mod2 (show kd % 2 = 1 by omega)
    have Ho := Lib.hid (show actOk kd x = rangeB x.off x.len by unfold actOk; rw [if_neg c])
    have Hp := Lib.hid (show actOp kd x = fun l => cutL l x.off x.len by funext l; unfold actOp; rw [if_neg c])
    clear c
    have hc := rcutF_ w1 B r tl h1 (Nat.le_trans hB hb1.size) hfew z x.off x.len fx.off fx.len
    rw [hw1] at hc
    unfold actC at hc hw1
    go_enter Try.func14, Try.ntmps14
    go_wp2_with fail
    refine hc.mono ?_
    rw [← hw1]
    intro e w2 hC
    have hC2 := hC.back hb1 hB
    obtain ⟨n, er, rfl⟩ := hC.form
    clear hC hc h h1
    go_wp2
    go_ret2
    rw [Ho.out, Hp.out]
    exact hC2
end
end Go.Proofs.Ytiehhmchokbafaa
