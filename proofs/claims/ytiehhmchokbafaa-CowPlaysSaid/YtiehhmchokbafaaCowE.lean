/- Layer 7: level: two trees whose depths are within two of each other, with an extent between them. -/
import Derived.Test.YtiehhmchokbafaaCowA
import Derived.Test.YtiehhmchokbafaaCowC
import Derived.Test.YtiehhmchokbafaaCowM
set_option linter.all false
namespace Go.Proofs.Ytiehhmchokbafaa
open Go.RowKit

section
variable (w : World) (S : Nat → Prop)
set_option maxRecDepth 100000 in
set_option maxHeartbeats 4000000 in
theorem level_even (lo hi : Tr) (al ah : Option Addr) (x : Ext) (hl : Tree w S al lo) (hh : Tree w S ah hi) (fx : Fit x) (hs : lo.size + hi.size ≤ 1000000) (h1 : lo.deep ≤ hi.deep + 1) (h2 : hi.deep ≤ lo.deep + 1) :
    Calls Try.prog 71 #[.agg #[.pointer al], .agg #[.int .i64 x.off, .int .i64 x.len, .int .i64 x.phys, .int .i64 x.birth], .agg #[.pointer ah]] w fun e w' => ∃ a, e = .returned (.agg #[.pointer a]) ∧ Tree w' S a (.node true lo x hi) ∧ Below w.heap.size w w' := by
  obtain ⟨d, hd⟩ : ∃ d : Int, d = (lo.deep : Int) - (hi.deep : Int) := ⟨_, rfl⟩
  have hdl := Tr.deep_size lo
  have hdh := Tr.deep_size hi
  have hwd : IntKind.i64.wrap ((lo.deep : Int) - (hi.deep : Int)) = d := by rw [IntKind.wrap_i64]; omega
  have hd1 : (d == 2) = false := by simpa using (by omega : ¬ d = 2)
  have hd2 : (d == -2) = false := by simpa using (by omega : ¬ d = -2)
  clear hd hdl hdh h1 h2
  obtain ⟨w1, hw1d, b0, b1, b2, b3, hB1⟩ := boxes3 w al ah x
  have hl1 := hl.below hB1
  have hh1 := hh.below hB1
  go_enter Try.func71, Try.ntmps71
  go_wp2_with fail
  rw [← hw1d]
  clear hw1d
  generalize hg : w.heap.size = g at *
  refine wp_region_noPanic ?_
  refine wp_region_held_drew (S := (fun w' => w'.cell? ⟨g, 0, none⟩ = some (.pointer al) ∧ w'.cell? ⟨g + 1 + 1, 0, none⟩ = some (.pointer ah))) (by kernel_rfl) ⟨b0.cell rfl, b2.cell rfl⟩ (fun _ => ?_)
  refine wpAnyH_take (i := 0) (oi := _) (v := ?_) rfl (by kernel_rfl) (by kernel_rfl) (by kernel_rfl) (fun _ _ _ h => h) (Or.inl ⟨by kernel_rfl, ?_⟩) ⟨b0.cell rfl, b2.cell rfl⟩ ?_
  rotate_left
  · (rintro w ⟨s0, s1⟩; go_simp; (first | done | rfl))
  try simp only [Act.put, List.getElem_toArray, List.getElem_cons_zero, List.getElem_cons_succ, List.setIfInBounds_toArray, List.set_cons_zero, List.set_cons_succ]
  refine wpAnyH_take (i := 2) (oi := _) (v := ?_) rfl (by kernel_rfl) (by kernel_rfl) (by kernel_rfl) (fun _ _ _ h => h) (Or.inl ⟨by kernel_rfl, ?_⟩) ⟨b0.cell rfl, b2.cell rfl⟩ ?_
  rotate_left
  · (rintro w ⟨s0, s1⟩; go_simp; (first | done | rfl))
  try simp only [Act.put, List.getElem_toArray, List.getElem_cons_zero, List.getElem_cons_succ, List.setIfInBounds_toArray, List.set_cons_zero, List.set_cons_succ]
  refine wpAnyH_ready (rs := [1]) (by kernel_rfl) (by simp) (AllReadyH.cons (o := _) rfl (fun K hK => ?_) AllReadyH.nil)
  rw [if_pos (by kernel_rfl)]
  refine wp_fn 43 _ _ rfl _ rfl enters_deep (deep_ _ S lo al hl1.drew) ?_
  rintro e w2 ⟨rfl, hb2⟩
  have hB2 : Below w1.heap.size w1 w2 := below_undrew hb2
  refine ⟨_, rfl, ?_⟩
  refine hK.out _ _ ⟨(b0.keep hB2).cell rfl, (b2.keep hB2).cell rfl⟩ (fun _ => ?_)
  clear hK K
  try simp only [Act.put, List.getElem_toArray, List.getElem_cons_zero, List.getElem_cons_succ, List.setIfInBounds_toArray, List.set_cons_zero, List.set_cons_succ]
  refine wpAnyH_ready (rs := [3]) (by kernel_rfl) (by simp) (AllReadyH.cons (o := _) rfl (fun K hK => ?_) AllReadyH.nil)
  rw [if_pos (by kernel_rfl)]
  refine wp_fn 43 _ _ rfl _ rfl enters_deep (deep_ _ S hi ah (hh1.below hB2)) ?_
  rintro e w3 ⟨rfl, hb3⟩
  have hB3 : Below w1.heap.size w1 w3 := below_step hB2 hb3 (Nat.le_refl _)
  refine ⟨_, rfl, ?_⟩
  refine hK.out _ _ ⟨(b0.keep hB3).cell rfl, (b2.keep hB3).cell rfl⟩ (fun _ => ?_)
  clear hK K
  try simp only [Act.put, List.getElem_toArray, List.getElem_cons_zero, List.getElem_cons_succ, List.setIfInBounds_toArray, List.set_cons_zero, List.set_cons_succ]
  refine wpAnyH_take (i := 4) (oi := _) (v := ?_) rfl (by kernel_rfl) (by kernel_rfl) (by kernel_rfl) (fun _ _ _ h => h) (Or.inl ⟨by kernel_rfl, ?_⟩) ⟨(b0.keep hB3).cell rfl, (b2.keep hB3).cell rfl⟩ ?_
  rotate_left
  · (rintro w ⟨s0, s1⟩; go_simp; (first | done | rfl))
  try simp only [Act.put, List.getElem_toArray, List.getElem_cons_zero, List.getElem_cons_succ, List.setIfInBounds_toArray, List.set_cons_zero, List.set_cons_succ]
  refine wpAnyH_done (by kernel_rfl) ?_ _
  refine NoPanic.normal ?_
  replace b0 := b0.keep hB3
  replace b1 := b1.keep hB3
  replace b2 := b2.keep hB3
  replace b3 := b3.keep hB3
  replace hB3 := hB1.trans (hB3.mono (by have := hB1.size; omega))
  subst hg
  clear hb2 hb3 hB2 hl1 hh1
  have e0 := b0.cell (j := 0) (u := .pointer al) rfl
  have e1 := b1.cell (j := 0) (u := .int .i64 x.off) rfl
  have e2 := b1.cell (j := 1) (u := .int .i64 x.len) rfl
  have e3 := b1.cell (j := 2) (u := .int .i64 x.phys) rfl
  have e4 := b1.cell (j := 3) (u := .int .i64 x.birth) rfl
  have e5 := b2.cell (j := 0) (u := .pointer ah) rfl
  go_wp2_with fail
  refine (grow_ _ S lo hi al ah x (hl.below hB3) (hh.below hB3) fx hs).mono ?_
  rintro e w4 ⟨a4, rfl, ht4, hb4⟩
  have b34 := b3.keep hb4
  have f0 := b34.free 0
  have k0 := b34.cell (j := 0) (u := .pointer none) rfl
  go_wp2
  refine bodyPost_ret (results_tr rfl rfl (b34.setCell 0 (.pointer a4))) rfl ?_
  exact ⟨_, rfl, ht4.var b34 (Tn.set _ _ _ (Nat.le_refl _) (Nat.lt_succ_self _)), (hB3.trans (hb4.mono hB3.size)).trans ((Tn.set (lo := w.heap.size + 1 + 1 + 1) (hi := w.heap.size + 1 + 1 + 1 + 1) _ _ _ (Nat.le_refl _) (Nat.lt_succ_self _)).below (by omega) (by have := hB3.size; have := hb4.size; omega))⟩
theorem level_ (lo hi : Tr) (al ah : Option Addr) (x : Ext) (hl : Tree w S al lo) (hh : Tree w S ah hi) (fx : Fit x) (hs : lo.size + hi.size ≤ 1000000) (h1 : lo.deep ≤ hi.deep + 2) (h2 : hi.deep ≤ lo.deep + 2) :
    Calls Try.prog 71 #[.agg #[.pointer al], .agg #[.int .i64 x.off, .int .i64 x.len, .int .i64 x.phys, .int .i64 x.birth], .agg #[.pointer ah]] w fun e w' => ∃ a, e = .returned (.agg #[.pointer a]) ∧ Tree w' S a (balT lo x hi) ∧ Below w.heap.size w w' := by
  unfold balT
  by_cases c1 : hi.deep + 1 < lo.deep
  · rw [if_pos c1]
    cases lo with
    | nil => simp [Tr.deep] at c1
    | node nf ll lx lr =>
      by_cases c2 : lr.deep ≤ ll.deep
      · simp only [if_pos c2]
        exact level_lo1 w S nf ll hi lx lr al ah x hl hh fx hs (by omega) c2
      · simp only [if_neg c2]
        cases lr with
        | nil => simp [Tr.deep] at c2
        | node ng rl rx rr => exact level_lo2 w S nf ll hi lx ng rl rr rx al ah x hl hh fx hs (by omega) (by omega)
  · rw [if_neg c1]
    by_cases c3 : lo.deep + 1 < hi.deep
    · rw [if_pos c3]
      cases hi with
      | nil => simp [Tr.deep] at c3
      | node nf hl' hx hr =>
        by_cases c2 : hl'.deep ≤ hr.deep
        · simp only [if_pos c2]
          exact level_hi1 w S nf hr lo hx hl' al ah x hl hh fx (by omega) (by omega) c2
        · simp only [if_neg c2]
          cases hl' with
          | nil => simp [Tr.deep] at c2
          | node ng ml mx mr => exact level_hi2 w S nf hr lo hx ng ml mr mx al ah x hl hh fx (by omega) (by omega) (by omega)
    · rw [if_neg c3]
      exact level_even w S lo hi al ah x hl hh fx hs (by omega) (by omega)
end
end Go.Proofs.Ytiehhmchokbafaa
