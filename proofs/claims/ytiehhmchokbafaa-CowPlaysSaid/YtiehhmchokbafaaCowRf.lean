/- Layer 7: the document's forest: New, Has, Put, Cut; would. -/
import Derived.Test.YtiehhmchokbafaaCowAf
set_option linter.all false
namespace Go.Proofs.Ytiehhmchokbafaa
open Go.ChangeShapes Go.WideShapes Go.ChangeAt Go.RowKit

abbrev Row3 : Type := Option Addr × Nat × Nat
def sv (L : Row3) : Value := .slice L.1 L.2.1 L.2.2
/-- The document's forest: its lists, in a row, in a variable. -/
structure Ro (w : World) (B r : Nat) (tl : List (List Ext)) : Prop where
  row : ∃ (v : Value) (Ls : List Row3), Blk w r 31 #[v] ∧ w.ownsRow B 42 1 v tl.length (Ls.map sv) ∧ Ls.length = tl.length ∧ ∀ (i : Nat) (L : Row3) (l : List Ext), Ls[i]? = some L → tl[i]? = some l → Eo w B (sv L) L.2.1 l
  rights : ∀ l ∈ tl, rightB l = true
  new : B ≤ r
  least : 0 < tl.length
  few : tl.length ≤ 100000
theorem Ro.ty {T : TypeId → Prop} {w w' : World} {B r : Nat} {tl : List (List Ext)} (h : Ro w B r tl) (ht : Ty T w w') (h1 : ¬ T 31) (h2 : ¬ T 42) (h3 : ¬ T 24) : Ro w' B r tl := by
  obtain ⟨v, Ls, k1, k2, k3, k4⟩ := h.row
  exact ⟨⟨v, Ls, ht.block _ _ _ k1 h1, own_ty ht h2 k2, k3, fun i L l e1 e2 => own_ty ht h3 (k4 i L l e1 e2)⟩, h.rights, h.new, h.least, h.few⟩
theorem Ro.below {w w' : World} {B r : Nat} {tl : List (List Ext)} (h : Ro w B r tl) (hb : Below w.heap.size w w') : Ro w' B r tl := h.ty (T := fun _ => False) (Ty.ofBelow hb) id id id
/-- What its variable holds. -/
theorem Ro.slot {w : World} {B r : Nat} {tl : List (List Ext)} (h : Ro w B r tl) : ∃ b c, w.cell? ⟨r, 0, none⟩ = some (.slice (some ⟨b, 0, none⟩) tl.length c) ∧ tl.length ≤ c ∧ ∀ i l, tl[i]? = some l → ∃ L : Row3, w.cell? ⟨b, i, none⟩ = some (.slice L.1 L.2.1 L.2.2) ∧ Es w L.1 L.2.1 l ∧ L.2.1 ≤ 9223372036854775807 := by
  obtain ⟨v, Ls, k1, k2, k3, k4⟩ := h.row
  have hs := h.least
  rcases k2.2 with ⟨-, hn⟩ | ⟨g, cap, cur, rfl, -, hg, hc, -, hcs, hx⟩
  · omega
  · have hg' : Blk w g 42 cur := hg
    refine ⟨g, cap, k1.cell rfl, hc, fun i l hl => ?_⟩
    have hi : i < tl.length := (List.getElem?_eq_some_iff.1 hl).1
    obtain ⟨L, hL⟩ : ∃ L, Ls[i]? = some L := ⟨_, List.getElem?_eq_getElem (by omega)⟩
    have he := k4 i L l hL hl
    have hr := h.rights l (List.mem_of_getElem? hl)
    have hm : L.2.1 ≤ 1024 := by have := eo_len he; have := right_short hr; omega
    refine ⟨L, hg'.cell ?_, eo_es he (mays_fit (mays_right hr)), by omega⟩
    have h1 : (Ls.map sv)[i]? = some (sv L) := by rw [List.getElem?_map, hL]; rfl
    rw [← hx, List.getElem?_take, if_pos (by omega)] at h1
    simpa [sv] using h1
theorem slice_info : ∃ i, Try.prog.info? 42 = some i ∧ i.zero = some (.slice none 0 0) ∧ i.size = 1 ∧ i.bytes = 24 := by
  have h : (Try.prog.info? 42).map (fun i => (i.zero, i.size, i.bytes)) = some (some (.slice none 0 0), 1, 24) := by kernel_rfl
  obtain ⟨i, hi, he⟩ := Option.map_eq_some_iff.1 h
  simp only [Prod.mk.injEq] at he
  exact ⟨i, hi, he.1, he.2.1, he.2.2⟩
theorem results_rn {fn : Func} {W : World} {s q : Nat} {v : Value} {tmps : Array Value} (h : fn.results = #[.cell s 31]) (h2 : tmps.getD s undef = .pointer (some ⟨q, 0, none⟩)) (hb : Blk W q 31 #[v]) :
    (results fn tmps).run Try.prog W = .ok (.agg #[v]) W := by
  have d0 := hb.cell (j := 0) rfl
  have h2' : tmps[s]?.getD undef = .pointer (some ⟨q, 0, none⟩) := by simpa using h2
  simp [results, h, h2', go_sem, d0]
set_option maxRecDepth 100000 in
set_option maxHeartbeats 1000000 in
theorem rnewF_ (w : World) : Calls Try.prog 10 #[] w fun e w' => ∃ g, e = .returned (.agg #[.slice (some ⟨g, 0, none⟩) 1 1]) ∧ w.heap.size ≤ g ∧ Blk w' g 42 #[.slice none 0 0] ∧ Below w.heap.size w w' := by
  have hf : Blk ((w.alloc (.cells #[.slice (some ⟨w.heap.size + 1, 0, none⟩) 1 1] 31)).alloc (.cells #[.slice none 0 0] 42)) w.heap.size 31 #[.slice (some ⟨w.heap.size + 1, 0, none⟩) 1 1] := (Blk.new w _ _ rfl).alloc _
  go_enter Try.func10, Try.ntmps10
  go_wp2
  refine bodyPost_ret (results_rn rfl rfl hf) rfl ?_
  exact ⟨w.heap.size + 1, rfl, Nat.le_succ _, Blk.new _ _ _ (by simp), ((Below.refl _ _).alloc (Nat.le_refl _) _).alloc (by simp) _⟩
section
variable (w : World) (B r : Nat) (tl : List (List Ext))
set_option maxRecDepth 100000 in
theorem rhas_ (h : Ro w B r tl) (z : Int) : Calls Try.prog 23 #[.pointer (some ⟨r, 0, none⟩), .int .i64 z] w fun e w' => e = .returned (.bool (decide (0 ≤ z ∧ z < tl.length))) ∧ w = w' := by
  obtain ⟨b, c, c0, hc, -⟩ := h.slot
  by_cases h0 : 0 ≤ z
  · have hd0 : decide (0 ≤ z) = true := decide_eq_true h0
    by_cases h1 : z < tl.length
    · have hd1 : decide (z < (tl.length : Int)) = true := decide_eq_true h1
      have Hd := Lib.hid (show decide (0 ≤ z ∧ z < tl.length) = true from decide_eq_true ⟨h0, h1⟩)
      clear h0 h1
      go_enter Try.func23, Try.ntmps23
      go_wp2
      go_ret
      rw [Hd.out]
      exact ⟨by simp [hd1], rfl⟩
    · have hd1 : decide (z < (tl.length : Int)) = false := decide_eq_false h1
      have Hd := Lib.hid (show decide (0 ≤ z ∧ z < tl.length) = false from decide_eq_false fun h => h1 h.2)
      clear h0 h1
      go_enter Try.func23, Try.ntmps23
      go_wp2
      go_ret
      rw [Hd.out]
      exact ⟨by simp [hd1], rfl⟩
  · have hd0 : decide (0 ≤ z) = false := decide_eq_false h0
    have Hd := Lib.hid (show decide (0 ≤ z ∧ z < tl.length) = false from decide_eq_false fun h => h0 h.1)
    clear h0
    go_enter Try.func23, Try.ntmps23
    go_wp2
    go_ret
    rw [Hd.out]
    exact ⟨by simp, rfl⟩

/-- What the document's Put, or Cut, does. -/
def RoT : TypeId → Prop := fun t => t = 31
structure RMore (w w' : World) (B r : Nat) (tl : List (List Ext)) (l : List Ext) : Prop where
  ro : Ro w' B r (tl ++ [l])
  below : Below B w w'
  ty : Ty RoT w w'
theorem RMore.back {w w1 w' : World} {B r : Nat} {tl : List (List Ext)} {l : List Ext} (h : RMore w1 w' B r tl l) (hb : Below w.heap.size w w1) (hB : B ≤ w.heap.size) : RMore w w' B r tl l :=
  ⟨h.ro, (hb.mono hB).trans h.below, (Ty.ofBelow hb).trans h.ty⟩
theorem rmore_of {w w2 : World} {B r : Nat} {tl : List (List Ext)} {l : List Ext} {v v5 : Value} {Ls : List Row3} {L : Row3} (h : Ro w B r tl) (hfew : tl.length < 100000)
    (k1 : Blk w r 31 #[v]) (k3 : Ls.length = tl.length) (k4 : ∀ (i : Nat) (L : Row3) (l : List Ext), Ls[i]? = some L → tl[i]? = some l → Eo w B (sv L) L.2.1 l)
    (hL : Eo w B (sv L) L.2.1 l) (hr : rightB l = true) (hb : Below w.heap.size w w2) (hB : B ≤ w.heap.size)
    (hown : w2.ownsRow w.heap.size 42 1 v5 (tl.length + 1) (Ls.map sv ++ [sv L])) : RMore w (w2.setCell ⟨r, 0, none⟩ v5) B r tl l := by
  have kr := k1.keep hb
  have hty : Ty RoT w2 (w2.setCell ⟨r, 0, none⟩ v5) := Ty.set (T := RoT) kr rfl 0 v5
  have hne : v5.ownBlock ≠ some r := fun e => by
    have := (row_block hown r e).1
    have := k1.lt
    omega
  refine ⟨⟨⟨v5, Ls ++ [L], kr.setCell 0 v5, ?_, by simp [k3], fun i M x e1 e2 => ?_⟩, fun x hx => ?_, h.new, by simp, by simp; omega⟩, (hb.mono hB).setCell h.new _, (Ty.ofBelow hb).trans hty⟩
  · have h3 := ownsRow_setCell_other (hown.mono hB) (a := ⟨r, 0, none⟩) hne v5
    simpa using h3
  · refine own_ty hty (by unfold RoT; decide) (own_keep ?_ hb)
    by_cases hi : i < tl.length
    · rw [List.getElem?_append_left (by omega)] at e1 e2
      exact k4 i M x e1 e2
    · rw [List.getElem?_append_right (by omega)] at e1 e2
      by_cases h0 : i - tl.length = 0
      · rw [h0] at e2
        rw [k3, h0] at e1
        simp only [List.getElem?_cons_zero, Option.some.injEq] at e1 e2
        subst e1 e2
        exact hL
      · rw [show i - tl.length = (i - tl.length - 1) + 1 by omega] at e2
        simp at e2
  · rcases List.mem_append.1 hx with hx | hx
    · exact h.rights x hx
    · rw [List.mem_singleton.1 hx]; exact hr
set_option maxRecDepth 100000 in
set_option maxHeartbeats 2000000 in
theorem radds_no (v : Value) (A : Option Addr) (m c : Nat) (er : Int) (he : er ≠ 0) : Calls Try.prog 51 #[.pointer (some ⟨r, 0, none⟩), .slice A m c, .int .i64 er] w fun e w' => e = .returned (.tuple #[.int .i64 0, .int .i64 er]) ∧ w = w' := by
  have hne : (er != 0) = true := by simpa using he
  clear he
  go_enter Try.func51, Try.ntmps51
  go_wp2
  go_ret2
  exact ⟨rfl, rfl⟩
set_option maxRecDepth 100000 in
set_option maxHeartbeats 4000000 in
theorem radds_ok (h : Ro w B r tl) (hB : B ≤ w.heap.size) (hfew : tl.length < 100000) (A : Option Addr) (m c : Nat) (l : List Ext) (hl : Eo w B (.slice A m c) m l) (hr : rightB l = true) :
    Calls Try.prog 51 #[.pointer (some ⟨r, 0, none⟩), .slice A m c, .int .i64 0] w fun e w' => e = .returned (.tuple #[.int .i64 (tl.length : Int), .int .i64 0]) ∧ RMore w w' B r tl l := by
  obtain ⟨i0, hi0, hz0, hz1, hz2⟩ := slice_info
  have Hz := Lib.hid hz2
  clear hz2
  obtain ⟨v, Ls, k1, k2, k3, k4⟩ := h.row
  obtain ⟨A1, c1, rfl, -, -, hA1⟩ := own_form k2
  have d0 := k1.cell (j := 0) (u := .slice A1 tl.length c1) rfl
  have K3 := Lib.hid k3
  clear k3
  have hwl : IntKind.i64.wrap (((tl.length + 1 : Nat) : Int) - 1) = (tl.length : Int) := by rw [IntKind.wrap_i64]; omega
  go_enter Try.func51, Try.ntmps51
  go_wp2_with (first
    | (at_builtin
       refine wpList_app _ rfl (.const (.slice none 0 0)) (.tmp 15) _ rfl w.heap.size 42 i0 _ 1 24 Try.underlying29 hi0 hz0 hz1 Hz.out rfl (by decide) (.slice none 0 0) 0 [] rfl (own_nil _ _ _ _) A1 tl.length c1 (Ls.map sv) rfl (fun h => (hA1 h).1) (rd_own k2) (fun u hu => by obtain ⟨L, -, rfl⟩ := List.mem_map.1 hu; rfl) (by unfold maxLen; omega) (by omega) (Nat.le_refl _) ?_
       intro v2 w2 hown2 hg2 hat2
       have hb2 : Below w.heap.size w w2 := (Below.refl _ _).grown hg2 (Nat.le_refl _) (fun k hk => by cases hk)
       rw [List.nil_append, Nat.zero_add] at hown2
       obtain ⟨A2, c2, rfl, -, -, -⟩ := own_form hown2
       clear hg2 hat2)
    | (at_builtin
       refine wpList_app _ rfl (.tmp 16) (.tmp 18) _ rfl w.heap.size 42 i0 _ 1 24 Try.underlying29 hi0 hz0 hz1 Hz.out rfl (by decide) (.slice A2 tl.length c2) tl.length _ rfl (own_keep hown2 ((Below.refl _ _).alloc (Nat.le_refl _) _)) _ 1 1 [sv (A, m, c)] rfl (fun h => by cases h) (Rd.new w2 #[.slice A m c] 42 (0, 0) rfl) (fun u hu => by rw [List.mem_singleton.1 hu]; rfl) (by unfold maxLen; omega) (by omega) (by have := hb2.size; simp; omega) ?_
       intro v3 w3 hown3 hg3 hat3
       have hb23 : Below w2.heap.size w2 (w2.alloc (.cells #[.slice A m c] 42)) := (Below.refl _ _).alloc (Nat.le_refl _) _
       have hb3 : Below w.heap.size w w3 := (hb2.trans (hb23.mono hb2.size)).grown hg3 (hb2.trans (hb23.mono hb2.size)).size (fun k hk => (row_block hown2 k hk).1)
       have hM := rmore_of (L := (A, m, c)) h hfew k1 K3.out k4 hl hr hb3 hB hown3
       obtain ⟨A3, c3, rfl, -, -, -⟩ := own_form hown3
       have kr := k1.keep hb3
       have f3 := kr.free 0
       have e3 := kr.cell (j := 0) (u := .slice A1 tl.length c1) rfl
       clear hg3 hat3 hown3 hown2)
    | fail)
  go_ret2
  exact ⟨rfl, hM⟩
end
end Go.Proofs.Ytiehhmchokbafaa
