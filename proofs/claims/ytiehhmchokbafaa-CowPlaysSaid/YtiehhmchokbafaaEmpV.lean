/- Layer 6: the document's Put. -/
import Derived.Test.YtiehhmchokbafaaEmpU
set_option linter.all false
namespace Go.Proofs.Ytiehhmchokbafaa
open Go.RowKit

theorem some_ne {a : Addr} {q : Prop} (h : some a = none) : q := by cases h
theorem ev_one (x : Ext) : ∀ u ∈ ev x, u.oneCell' = true := fun u hu => evs_one [x] u (by simpa [evs] using hu)
theorem mays_put {l : List Ext} {x : Ext} (h : rightB l = true) (hx : x.may = true) : mays (partL l 0 x.off ++ x :: partL l (x.off + x.len) 1024) := by
  have hm := mays_right h
  intro y hy
  have hp : ∀ {a b : Int}, ∀ z ∈ partL l a b, z.may = true := fun z hz => by
    obtain ⟨u, hu, hc⟩ := List.mem_filterMap.1 hz
    exact clip_may (hm u hu) hc
  rcases List.mem_append.1 hy with hy | hy
  · exact hp y hy
  · rcases List.mem_cons.1 hy with rfl | hy
    · exact hx
    · exact hp y hy
section
variable (w : World)
set_option maxRecDepth 100000 in
set_option maxHeartbeats 4000000 in
theorem rput_ok (A : Option Addr) (n c : Nat) (l : List Ext) (x : Ext) (h : Es w A n l) (hr : rightB l = true) (hm : x.may = true) :
    Calls Try.prog 50 #[.slice A n c, .agg #[.int .i64 x.off, .int .i64 x.len, .int .i64 x.phys, .int .i64 x.birth]] w fun e w' => ∃ v m, e = .returned (.tuple #[v, .int .i64 0]) ∧ Eo w' w.heap.size v m (putL l x) ∧ Below w.heap.size w w' := by
  obtain ⟨i0, hi0, hz0, hz1, hz2⟩ := ext_info
  have Hz := Lib.hid hz2
  clear hz2
  have hlen := h.len
  have hsh := right_short hr
  have fx := fit_of hm
  have hxl := may_len hm
  have hml := mays_right hr
  have hac := Blk.new w 24 #[.int .i64 x.off, .int .i64 x.len, .int .i64 x.phys, .int .i64 x.birth] rfl
  have hba : Below w.heap.size w (w.alloc (.cells #[.int .i64 x.off, .int .i64 x.len, .int .i64 x.phys, .int .i64 x.birth] 24)) := (Below.refl _ _).alloc (Nat.le_refl _) _
  have hs1 : (w.alloc (.cells #[.int .i64 x.off, .int .i64 x.len, .int .i64 x.phys, .int .i64 x.birth] 24)).heap.size = w.heap.size + 1 := by simp
  have h1 := h.below hba
  have hn : n ≤ 1024 := by omega
  have Hwl := Lib.hid (show IntKind.i64.wrap (x.off + x.len) = x.off + x.len by rw [IntKind.wrap_i64]; omega)
  have HM := Lib.hid (mays_put hr hm)
  clear hlen hsh h
  go_enter Try.func50, Try.ntmps50
  go_wp2_with fail
  refine (rright_ _ A n c l h1 (by omega)).mono ?_
  rw [hr]
  rintro e w2 ⟨rfl, hb2⟩
  generalize (w.alloc (.cells #[.int .i64 x.off, .int .i64 x.len, .int .i64 x.phys, .int .i64 x.birth] 24)) = w1 at *
  have hac2 := hac.keep hb2
  have d0 := hac2.cell (j := 0) (u := .int .i64 x.off) rfl
  have d1 := hac2.cell (j := 1) (u := .int .i64 x.len) rfl
  have d2 := hac2.cell (j := 2) (u := .int .i64 x.phys) rfl
  have d3 := hac2.cell (j := 3) (u := .int .i64 x.birth) rfl
  go_wp2_with fail
  refine (rmay_ _ x fx).mono ?_
  rw [hm]
  rintro e w3 ⟨rfl, hb3⟩
  clear d0 d1 d2 d3
  have hb13 := below_step hb2 hb3 (Nat.le_refl _)
  have hac3 := hac.keep hb13
  have d0 := hac3.cell (j := 0) (u := .int .i64 x.off) rfl
  have d1 := hac3.cell (j := 1) (u := .int .i64 x.len) rfl
  have d2 := hac3.cell (j := 2) (u := .int .i64 x.phys) rfl
  have d3 := hac3.cell (j := 3) (u := .int .i64 x.birth) rfl
  have h3 := h1.below hb13
  have hs13 := hb13.size
  have hx3 := hac3.lt
  go_wp2_with fail
  have hz64 : I64 0 := by unfold I64; omega
  have hn5 : n ≤ 50000 := by omega
  have hmx : ∀ k, k ≤ n → k + 1 ≤ maxLen := fun k hk => by unfold maxLen; omega
  have hby : ∀ k, k ≤ n → (k + 1) * 32 ≤ 140737488355328 := fun k hk => by omega
  go_region_held3 (fun w' => w'.cell? ⟨w.heap.size, 0, none⟩ = some (.int .i64 x.off) ∧ w'.cell? ⟨w.heap.size, 1, none⟩ = some (.int .i64 x.len) ∧ w'.cell? ⟨w.heap.size, 2, none⟩ = some (.int .i64 x.phys) ∧ w'.cell? ⟨w.heap.size, 3, none⟩ = some (.int .i64 x.birth))
    (first | exact ⟨d0, d1, d2, d3⟩ | exact ⟨k0, k1, k2, k3⟩ | exact ⟨e0, e1, e2, e3⟩ | go_keep)
    (first
      | (go_at_call 37
         refine (rpart_ _ A n c l 0 x.off hz64 fx.off (h3.drew) hml hn5).mono ?_
         rintro e w4 ⟨v1, m1, rfl, ho1, hmm1, hm1, hb4⟩
         have hB4 : Below w1.heap.size w1 w4 := below_step hb13 (below_undrew hb4) (Nat.le_refl _)
         have ho4 : Eo w4 w1.heap.size v1 m1 (partL l 0 x.off) := ho1.mono hs13
         have hac4 := hac.keep hB4
         have e0 := hac4.cell (j := 0) (u := .int .i64 x.off) rfl
         have e1 := hac4.cell (j := 1) (u := .int .i64 x.len) rfl
         have e2 := hac4.cell (j := 2) (u := .int .i64 x.phys) rfl
         have e3 := hac4.cell (j := 3) (u := .int .i64 x.birth) rfl)
      | (go_at_call 37
         refine (rpart_ _ A n c l 0 x.off hz64 fx.off ((h3.alloc _).drew) hml hn5).mono ?_
         rintro e w4 ⟨v1, m1, rfl, ho1, hmm1, hm1, hb4⟩
         have hB4 : Below w1.heap.size w1 w4 := below_step (hb13.alloc hb13.size _) (below_undrew hb4) (Nat.le_refl _)
         have ho4 : Eo w4 w1.heap.size v1 m1 (partL l 0 x.off) := ho1.mono (hb13.alloc hb13.size _).size
         have hrd : Rd w4 (some ⟨w3.heap.size, 0, none⟩) 4 1 (ev x) := (rd_one rfl).below (below_undrew hb4)
         have hac4 := hac.keep hB4
         have e0 := hac4.cell (j := 0) (u := .int .i64 x.off) rfl
         have e1 := hac4.cell (j := 1) (u := .int .i64 x.len) rfl
         have e2 := hac4.cell (j := 2) (u := .int .i64 x.phys) rfl
         have e3 := hac4.cell (j := 3) (u := .int .i64 x.birth) rfl)
      | (refine step_app _ rfl (.tmp 18) (.tmp 20) _ rfl w1.heap.size 24 i0 _ 4 32 Try.underlying42 hi0 hz0 hz1 Hz.out rfl (Nat.zero_lt_succ 3) v1 m1 _ rfl (own_keep ho4 ((Below.refl _ _).alloc (Nat.le_refl _) _)) _ 1 1 (ev x) rfl (fun h => some_ne h) (rd_one rfl) (ev_one x) (hmx m1 hm1) (hby m1 hm1) (hB4.alloc hB4.size _).size ?_
         intro v5 w5 hown5 hg5 hat5
         have hB5 : Below w1.heap.size w1 w5 := (hB4.alloc hB4.size _).grown hg5 (hB4.alloc hB4.size _).size (own_from ho4)
         have hac5 := hac.keep hB5
         have k0 := hac5.cell (j := 0) (u := .int .i64 x.off) rfl
         have k1 := hac5.cell (j := 1) (u := .int .i64 x.len) rfl
         have k2 := hac5.cell (j := 2) (u := .int .i64 x.phys) rfl
         have k3 := hac5.cell (j := 3) (u := .int .i64 x.birth) rfl)
      | (refine step_app _ rfl (.tmp 18) (.tmp 20) _ rfl w1.heap.size 24 i0 _ 4 32 Try.underlying42 hi0 hz0 hz1 Hz.out rfl (Nat.zero_lt_succ 3) v1 m1 _ rfl ho4 _ 1 1 (ev x) rfl (fun h => some_ne h) hrd (ev_one x) (hmx m1 hm1) (hby m1 hm1) hB4.size ?_
         intro v5 w5 hown5 hg5 hat5
         have hB5 : Below w1.heap.size w1 w5 := hB4.grown hg5 hB4.size (own_from ho4)
         have hac5 := hac.keep hB5
         have k0 := hac5.cell (j := 0) (u := .int .i64 x.off) rfl
         have k1 := hac5.cell (j := 1) (u := .int .i64 x.len) rfl
         have k2 := hac5.cell (j := 2) (u := .int .i64 x.phys) rfl
         have k3 := hac5.cell (j := 3) (u := .int .i64 x.birth) rfl))
  all_goals
    have ho5 : Eo w5 w1.heap.size v5 (m1 + 1) (partL l 0 x.off ++ [x]) := eo_of hown5 (evs_snoc _ _).symm
    have h5 := h1.below hB5
    have hw := Hwl.out
    clear hown5 hg5 hat5 d0 d1 d2 d3 e0 e1 e2 e3 ho1 ho4 hb4 hB4
    go_wp2_with fail
    refine (rpart_ w5 A n c l (x.off + x.len) 1024 (by unfold I64; omega) (by unfold I64; omega) h5 hml hn5).mono ?_
    rintro e w6 ⟨v6, m6, rfl, ho6, hmm6, hm6, hb6⟩
    have hB6 := below_step hB5 hb6 (Nat.le_refl _)
    have ho56 := own_keep ho5 hb6
    obtain ⟨A5, c5, rfl, -, -, -⟩ := own_form ho5
    obtain ⟨A6, c6, rfl, hc6, hm6x, hA6⟩ := own_form ho6
    go_wp2_with (first
      | (at_builtin
         go_must (refine wpList_app _ rfl (.tmp 22) (.tmp 29) _ rfl w1.heap.size 24 i0 _ 4 32 Try.underlying42 hi0 hz0 hz1 Hz.out rfl (Nat.zero_lt_succ 3) _ (m1 + 1) _ rfl ho56 _ m6 c6 _ rfl (fun h => (hA6 h).1) (rd_own ho6) (evs_one _) (by unfold maxLen; omega) (by omega) hB6.size ?_)
         intro v7 w7 hown7 hg7 hat7
         have ho7 : Eo w7 w1.heap.size v7 (m1 + 1 + m6) (partL l 0 x.off ++ x :: partL l (x.off + x.len) 1024) := eo_of hown7 (by rw [← evs_app]; simp)
         have hB7 : Below w1.heap.size w1 w7 := hB6.grown hg7 hB6.size (own_from ho56)
         obtain ⟨A7, c7, rfl, -, -, -⟩ := own_form ho7))
    refine (rjoin_ w7 A7 (m1 + 1 + m6) c7 _ (eo_es ho7 (mays_fit HM.out)) HM.out (by omega)).mono ?_
    rintro e w8 ⟨v8, m8, rfl, ho8, -, hb8⟩
    go_wp2
    go_ret2
    have hB8 := below_step hB7 hb8 (Nat.le_refl _)
    exact ⟨v8, m8, rfl, ho8.mono (Nat.le_trans hba.size hB7.size), hba.trans (hB8.mono hba.size)⟩
end
end Go.Proofs.Ytiehhmchokbafaa
