/- XCowE, XCowF. -/
import Derived.Test.YtfcfffilfmbpeaaCowA
import Derived.Test.YtfcfffilfmbpeaaCowC
import Derived.Test.YtfcfffilfmbpeaaCowM
set_option linter.all false
namespace Go.Proofs.Ytfcfffilfmbpeaa
open Go.RowKit

section
variable (w : World) (S : Nat → Prop)
set_option maxRecDepth 100000 in
set_option maxHeartbeats 4000000 in
theorem level_even (lo hi : Tr) (al ah : Option Addr) (x : Ext) (hl : Tree w S al lo) (hh : Tree w S ah hi) (fx : Fit x) (hs : lo.size + hi.size ≤ 1000000) (h1 : lo.deep ≤ hi.deep + 1) (h2 : hi.deep ≤ lo.deep + 1) :
    Calls Try.prog 90 #[.agg #[.pointer al], .agg #[.int .i64 x.off, .int .i64 x.len, .int .i64 x.phys, .int .i64 x.birth], .agg #[.pointer ah]] w fun e w' => ∃ a, e = .returned (.agg #[.pointer a]) ∧ Tree w' S a (.node true lo x hi) ∧ Below w.heap.size w w' := by
  obtain ⟨d, hd⟩ : ∃ d : Int, d = (lo.deep : Int) - (hi.deep : Int) := ⟨_, rfl⟩
  have hdl := Tr.deep_size lo
  have hdh := Tr.deep_size hi
  have hwd : IntKind.i64.wrap ((lo.deep : Int) - (hi.deep : Int)) = d := by rw [IntKind.wrap_i64]; omega
  have hd1 : (d == 2) = false := by simpa using (by omega : ¬ d = 2)
  have hd2 : (d == -2) = false := by simpa using (by omega : ¬ d = -2)
  clear hd hdl hdh h1 h2
  obtain ⟨w1, hw1d, b0, b1, b2, b3, hB1⟩ := boxes3 w al ah x
  have hl1 := hl.below hB1
  have hh1 := hh.below hB1
  go_enter Try.func90, Try.ntmps90
  go_wp2_with fail
  rw [← hw1d]
  clear hw1d
  generalize hg : w.heap.size = g at *
  refine wp_region_noPanic ?_
  refine wp_region_held_drew (S := (fun w' => w'.cell? ⟨g, 0, none⟩ = some (.pointer al) ∧ w'.cell? ⟨g + 1 + 1, 0, none⟩ = some (.pointer ah))) (by kernel_rfl) ⟨b0.cell rfl, b2.cell rfl⟩ (fun _ => ?_)
  refine wpAnyH_take (i := 0) (oi := _) (v := ?_) rfl (by kernel_rfl) (by kernel_rfl) (by kernel_rfl) (fun _ _ _ h => h) (Or.inl ⟨by kernel_rfl, ?_⟩) ⟨b0.cell rfl, b2.cell rfl⟩ ?_
  rotate_left
  · (rintro w ⟨s0, s1⟩; go_simp; (first | done | rfl))
  try simp only [Act.put, List.getElem_toArray, List.getElem_cons_zero, List.getElem_cons_succ, List.setIfInBounds_toArray, List.set_cons_zero, List.set_cons_succ]
  refine wpAnyH_take (i := 2) (oi := _) (v := ?_) rfl (by kernel_rfl) (by kernel_rfl) (by kernel_rfl) (fun _ _ _ h => h) (Or.inl ⟨by kernel_rfl, ?_⟩) ⟨b0.cell rfl, b2.cell rfl⟩ ?_
  rotate_left
  · (rintro w ⟨s0, s1⟩; go_simp; (first | done | rfl))
  try simp only [Act.put, List.getElem_toArray, List.getElem_cons_zero, List.getElem_cons_succ, List.setIfInBounds_toArray, List.set_cons_zero, List.set_cons_succ]
  refine wpAnyH_ready (rs := [1]) (by kernel_rfl) (by simp) (AllReadyH.cons (o := _) rfl (fun K hK => ?_) AllReadyH.nil)
  rw [if_pos (by kernel_rfl)]
  refine wp_fn 89 _ _ rfl _ rfl enters_deep (deep_ _ S lo al hl1.drew) ?_
  rintro e w2 ⟨rfl, hb2⟩
  have hB2 : Below w1.heap.size w1 w2 := below_undrew hb2
  refine ⟨_, rfl, ?_⟩
  refine hK.out _ _ ⟨(b0.keep hB2).cell rfl, (b2.keep hB2).cell rfl⟩ (fun _ => ?_)
  clear hK K
  try simp only [Act.put, List.getElem_toArray, List.getElem_cons_zero, List.getElem_cons_succ, List.setIfInBounds_toArray, List.set_cons_zero, List.set_cons_succ]
  refine wpAnyH_ready (rs := [3]) (by kernel_rfl) (by simp) (AllReadyH.cons (o := _) rfl (fun K hK => ?_) AllReadyH.nil)
  rw [if_pos (by kernel_rfl)]
  refine wp_fn 89 _ _ rfl _ rfl enters_deep (deep_ _ S hi ah (hh1.below hB2)) ?_
  rintro e w3 ⟨rfl, hb3⟩
  have hB3 : Below w1.heap.size w1 w3 := below_step hB2 hb3 (Nat.le_refl _)
  refine ⟨_, rfl, ?_⟩
  refine hK.out _ _ ⟨(b0.keep hB3).cell rfl, (b2.keep hB3).cell rfl⟩ (fun _ => ?_)
  clear hK K
  try simp only [Act.put, List.getElem_toArray, List.getElem_cons_zero, List.getElem_cons_succ, List.setIfInBounds_toArray, List.set_cons_zero, List.set_cons_succ]
  refine wpAnyH_take (i := 4) (oi := _) (v := ?_) rfl (by kernel_rfl) (by kernel_rfl) (by kernel_rfl) (fun _ _ _ h => h) (Or.inl ⟨by kernel_rfl, ?_⟩) ⟨(b0.keep hB3).cell rfl, (b2.keep hB3).cell rfl⟩ ?_
  rotate_left
  · (rintro w ⟨s0, s1⟩; go_simp; (first | done | rfl))
  try simp only [Act.put, List.getElem_toArray, List.getElem_cons_zero, List.getElem_cons_succ, List.setIfInBounds_toArray, List.set_cons_zero, List.set_cons_succ]
  refine wpAnyH_done (by kernel_rfl) ?_ _
  refine NoPanic.normal ?_
  replace b0 := b0.keep hB3
  replace b1 := b1.keep hB3
  replace b2 := b2.keep hB3
  replace b3 := b3.keep hB3
  replace hB3 := hB1.trans (hB3.mono (by have := hB1.size; omega))
  subst hg
  clear hb2 hb3 hB2 hl1 hh1
  have e0 := b0.cell (j := 0) (u := .pointer al) rfl
  have e1 := b1.cell (j := 0) (u := .int .i64 x.off) rfl
  have e2 := b1.cell (j := 1) (u := .int .i64 x.len) rfl
  have e3 := b1.cell (j := 2) (u := .int .i64 x.phys) rfl
  have e4 := b1.cell (j := 3) (u := .int .i64 x.birth) rfl
  have e5 := b2.cell (j := 0) (u := .pointer ah) rfl
  go_wp2_with fail
  refine (grow_ _ S lo hi al ah x (hl.below hB3) (hh.below hB3) fx hs).mono ?_
  rintro e w4 ⟨a4, rfl, ht4, hb4⟩
  have b34 := b3.keep hb4
  have f0 := b34.free 0
  have k0 := b34.cell (j := 0) (u := .pointer none) rfl
  go_wp2
  refine bodyPost_ret (results_tr rfl rfl (b34.setCell 0 (.pointer a4))) rfl ?_
  exact ⟨_, rfl, ht4.var b34 (Tn.set _ _ _ (Nat.le_refl _) (Nat.lt_succ_self _)), (hB3.trans (hb4.mono hB3.size)).trans ((Tn.set (lo := w.heap.size + 1 + 1 + 1) (hi := w.heap.size + 1 + 1 + 1 + 1) _ _ _ (Nat.le_refl _) (Nat.lt_succ_self _)).below (by omega) (by have := hB3.size; have := hb4.size; omega))⟩
theorem level_ (lo hi : Tr) (al ah : Option Addr) (x : Ext) (hl : Tree w S al lo) (hh : Tree w S ah hi) (fx : Fit x) (hs : lo.size + hi.size ≤ 1000000) (h1 : lo.deep ≤ hi.deep + 2) (h2 : hi.deep ≤ lo.deep + 2) :
    Calls Try.prog 90 #[.agg #[.pointer al], .agg #[.int .i64 x.off, .int .i64 x.len, .int .i64 x.phys, .int .i64 x.birth], .agg #[.pointer ah]] w fun e w' => ∃ a, e = .returned (.agg #[.pointer a]) ∧ Tree w' S a (balT lo x hi) ∧ Below w.heap.size w w' := by
  unfold balT
  by_cases c1 : hi.deep + 1 < lo.deep
  · rw [if_pos c1]
    cases lo with
    | nil => simp [Tr.deep] at c1
    | node nf ll lx lr =>
      by_cases c2 : lr.deep ≤ ll.deep
      · simp only [if_pos c2]
        exact level_lo1 w S nf ll hi lx lr al ah x hl hh fx hs (by omega) c2
      · simp only [if_neg c2]
        cases lr with
        | nil => simp [Tr.deep] at c2
        | node ng rl rx rr => exact level_lo2 w S nf ll hi lx ng rl rr rx al ah x hl hh fx hs (by omega) (by omega)
  · rw [if_neg c1]
    by_cases c3 : lo.deep + 1 < hi.deep
    · rw [if_pos c3]
      cases hi with
      | nil => simp [Tr.deep] at c3
      | node nf hl' hx hr =>
        by_cases c2 : hl'.deep ≤ hr.deep
        · simp only [if_pos c2]
          exact level_hi1 w S nf hr lo hx hl' al ah x hl hh fx (by omega) (by omega) c2
        · simp only [if_neg c2]
          cases hl' with
          | nil => simp [Tr.deep] at c2
          | node ng ml mx mr => exact level_hi2 w S nf hr lo hx ng ml mr mx al ah x hl hh fx (by omega) (by omega) (by omega)
    · rw [if_neg c3]
      exact level_even w S lo hi al ah x hl hh fx hs (by omega) (by omega)
end
end Go.Proofs.Ytfcfffilfmbpeaa

set_option linter.all false
namespace Go.Proofs.Ytfcfffilfmbpeaa
open Go.RowKit

section
variable (w : World) (S : Nat → Prop)
/-- What join is asked for. -/
def JoinsT (S : Nat → Prop) (lo hi : Tr) : Prop := ∀ (w : World) (al ah : Option Addr) (x : Ext), Tree w S al lo → Tree w S ah hi → Fit x →
    Calls Try.prog 86 #[.agg #[.pointer al], .agg #[.int .i64 x.off, .int .i64 x.len, .int .i64 x.phys, .int .i64 x.birth], .agg #[.pointer ah]] w fun e w' => ∃ a, e = .returned (.agg #[.pointer a]) ∧ Tree w' S a (joinT lo x hi) ∧ Below w.heap.size w w'
theorem joinT_size {lo hi : Tr} (x : Ext) (hl : lo.bal) (hh : hi.bal) : (joinT lo x hi).size = lo.size + hi.size + 1 := by
  rw [Tr.size_list, (joinT_is x hl hh).1, Tr.size_list, Tr.size_list]
  simp only [List.length_append, List.length_cons]
  omega
set_option maxRecDepth 100000 in
set_option maxHeartbeats 4000000 in
theorem join_lo (nf : Bool) (L R hi : Tr) (kx : Ext) (al ah : Option Addr) (x : Ext) (hl : Tree w S al (Tr.node nf L kx R)) (hh : Tree w S ah hi) (fx : Fit x) (ih : JoinsT S R hi)
    (hs : (Tr.node nf L kx R).size + hi.size ≤ 1000000) (hs2 : L.size + (joinT R x hi).size ≤ 1000000) (hd : hi.deep + 1 < (Tr.node nf L kx R).deep) (h1 : L.deep ≤ (joinT R x hi).deep + 2) (h2 : (joinT R x hi).deep ≤ L.deep + 2) :
    Calls Try.prog 86 #[.agg #[.pointer al], .agg #[.int .i64 x.off, .int .i64 x.len, .int .i64 x.phys, .int .i64 x.birth], .agg #[.pointer ah]] w fun e w' => ∃ a, e = .returned (.agg #[.pointer a]) ∧ Tree w' S a (balT L kx (joinT R x hi)) ∧ Below w.heap.size w w' := by
  have hdl := Tr.deep_size (Tr.node nf L kx R)
  have hdo := Tr.deep_size hi
  obtain ⟨t, ht⟩ : ∃ t, t = Tr.node nf L kx R := ⟨_, rfl⟩
  obtain ⟨d, hde⟩ : ∃ d : Int, d = (t.deep : Int) - (hi.deep : Int) := ⟨_, rfl⟩
  have hwd : IntKind.i64.wrap ((t.deep : Int) - (hi.deep : Int)) = d := by rw [hde, ht, IntKind.wrap_i64]; omega
  have hd1 : 1 < d := by rw [hde, ht]; omega
  have hbig := hl
  obtain ⟨bl, aL, aR, rfl, hbl, fkx, -, hL, hR⟩ := hl
  rw [← ht] at hbig
  clear hs hd hdl hdo ht hde
  obtain ⟨w1, hw1d, b0, b1, b2, b3, hB1⟩ := boxes3 w (some ⟨bl, 0, none⟩) ah x
  have hg1 := hbig.below hB1
  have ho1 := hh.below hB1
  go_enter Try.func86, Try.ntmps86
  go_wp2_with fail
  rw [← hw1d]
  clear hw1d
  generalize hg : w.heap.size = g at *
  refine wp_region_noPanic ?_
  refine wp_region_held_drew (S := (fun w' => w'.cell? ⟨g, 0, none⟩ = some (.pointer (some ⟨bl, 0, none⟩)) ∧ w'.cell? ⟨g + 1 + 1, 0, none⟩ = some (.pointer ah))) (by kernel_rfl) ⟨b0.cell rfl, b2.cell rfl⟩ (fun _ => ?_)
  refine wpAnyH_take (i := 0) (oi := _) (v := ?_) rfl (by kernel_rfl) (by kernel_rfl) (by kernel_rfl) (fun _ _ _ h => h) (Or.inl ⟨by kernel_rfl, ?_⟩) ⟨b0.cell rfl, b2.cell rfl⟩ ?_
  rotate_left
  · (rintro w ⟨s0, s1⟩; go_simp; (first | done | rfl))
  try simp only [Act.put, List.getElem_toArray, List.getElem_cons_zero, List.getElem_cons_succ, List.setIfInBounds_toArray, List.set_cons_zero, List.set_cons_succ]
  refine wpAnyH_take (i := 2) (oi := _) (v := ?_) rfl (by kernel_rfl) (by kernel_rfl) (by kernel_rfl) (fun _ _ _ h => h) (Or.inl ⟨by kernel_rfl, ?_⟩) ⟨b0.cell rfl, b2.cell rfl⟩ ?_
  rotate_left
  · (rintro w ⟨s0, s1⟩; go_simp; (first | done | rfl))
  try simp only [Act.put, List.getElem_toArray, List.getElem_cons_zero, List.getElem_cons_succ, List.setIfInBounds_toArray, List.set_cons_zero, List.set_cons_succ]
  refine wpAnyH_ready (rs := [1]) (by kernel_rfl) (by simp) (AllReadyH.cons (o := _) rfl (fun K hK => ?_) AllReadyH.nil)
  rw [if_pos (by kernel_rfl)]
  refine wp_fn 89 _ _ rfl _ rfl enters_deep (deep_ _ S t (some ⟨bl, 0, none⟩) hg1.drew) ?_
  rintro e w2 ⟨rfl, hb2⟩
  have hB2 : Below w1.heap.size w1 w2 := below_undrew hb2
  refine ⟨_, rfl, ?_⟩
  refine hK.out _ _ ⟨(b0.keep hB2).cell rfl, (b2.keep hB2).cell rfl⟩ (fun _ => ?_)
  clear hK K
  try simp only [Act.put, List.getElem_toArray, List.getElem_cons_zero, List.getElem_cons_succ, List.setIfInBounds_toArray, List.set_cons_zero, List.set_cons_succ]
  refine wpAnyH_ready (rs := [3]) (by kernel_rfl) (by simp) (AllReadyH.cons (o := _) rfl (fun K hK => ?_) AllReadyH.nil)
  rw [if_pos (by kernel_rfl)]
  refine wp_fn 89 _ _ rfl _ rfl enters_deep (deep_ _ S hi ah (ho1.below hB2)) ?_
  rintro e w3 ⟨rfl, hb3⟩
  have hB3 : Below w1.heap.size w1 w3 := below_step hB2 hb3 (Nat.le_refl _)
  refine ⟨_, rfl, ?_⟩
  refine hK.out _ _ ⟨(b0.keep hB3).cell rfl, (b2.keep hB3).cell rfl⟩ (fun _ => ?_)
  clear hK K
  try simp only [Act.put, List.getElem_toArray, List.getElem_cons_zero, List.getElem_cons_succ, List.setIfInBounds_toArray, List.set_cons_zero, List.set_cons_succ]
  refine wpAnyH_take (i := 4) (oi := _) (v := ?_) rfl (by kernel_rfl) (by kernel_rfl) (by kernel_rfl) (fun _ _ _ h => h) (Or.inl ⟨by kernel_rfl, ?_⟩) ⟨(b0.keep hB3).cell rfl, (b2.keep hB3).cell rfl⟩ ?_
  rotate_left
  · (rintro w ⟨s0, s1⟩; go_simp; (first | done | rfl))
  try simp only [Act.put, List.getElem_toArray, List.getElem_cons_zero, List.getElem_cons_succ, List.setIfInBounds_toArray, List.set_cons_zero, List.set_cons_succ]
  refine wpAnyH_take (i := 5) (oi := _) (v := ?_) rfl (by kernel_rfl) (by kernel_rfl) (by kernel_rfl) (fun _ _ _ h => h) (Or.inl ⟨by kernel_rfl, ?_⟩) ⟨(b0.keep hB3).cell rfl, (b2.keep hB3).cell rfl⟩ ?_
  rotate_left
  · (rintro w ⟨s0, s1⟩; go_simp; (first | done | rfl))
  try simp only [Act.put, List.getElem_toArray, List.getElem_cons_zero, List.getElem_cons_succ, List.setIfInBounds_toArray, List.set_cons_zero, List.set_cons_succ]
  refine wpAnyH_done (by kernel_rfl) ?_ _
  refine NoPanic.normal ?_
  replace b0 := b0.keep hB3
  replace b1 := b1.keep hB3
  replace b2 := b2.keep hB3
  replace b3 := b3.keep hB3
  replace hB3 := hB1.trans (hB3.mono (by have := hB1.size; omega))
  subst hg
  clear hb2 hb3 hB2 hg1 ho1
  have n3 := hbl.below hB3 hbl.lt
  have hlbl := hbl.lt
  have hlt3 := b3.lt
  have tL := hL.below hB3
  have tR := hR.below hB3
  have tot := hh.below hB3
  go_wp2_with fail
  refine wp_region_noPanic ?_
  refine wp_region_held_drew (S := (fun w' => w'.cell? ⟨w.heap.size, 0, none⟩ = some (.pointer (some ⟨bl, 0, none⟩)) ∧ w'.cell? ⟨w.heap.size + 1, 0, none⟩ = some (.int .i64 x.off) ∧ w'.cell? ⟨w.heap.size + 1, 1, none⟩ = some (.int .i64 x.len) ∧ w'.cell? ⟨w.heap.size + 1, 2, none⟩ = some (.int .i64 x.phys) ∧ w'.cell? ⟨w.heap.size + 1, 3, none⟩ = some (.int .i64 x.birth) ∧ w'.cell? ⟨w.heap.size + 1 + 1, 0, none⟩ = some (.pointer ah) ∧ w'.cell? ⟨bl, 0, none⟩ = some (.int .i64 kx.off) ∧ w'.cell? ⟨bl, 1, none⟩ = some (.int .i64 kx.len) ∧ w'.cell? ⟨bl, 2, none⟩ = some (.int .i64 kx.phys) ∧ w'.cell? ⟨bl, 3, none⟩ = some (.int .i64 kx.birth) ∧ w'.cell? ⟨bl, 4, none⟩ = some (.pointer aL) ∧ w'.cell? ⟨bl, 5, none⟩ = some (.pointer aR))) (by kernel_rfl) ⟨b0.cell rfl, b1.cell rfl, b1.cell rfl, b1.cell rfl, b1.cell rfl, b2.cell rfl, n3.cell rfl, n3.cell rfl, n3.cell rfl, n3.cell rfl, n3.cell rfl, n3.cell rfl⟩ (fun _ => ?_)
  refine wpAnyH_take (i := 0) (oi := _) (v := ?_) rfl (by kernel_rfl) (by kernel_rfl) (by kernel_rfl) (fun _ _ _ h => h) (Or.inl ⟨by kernel_rfl, ?_⟩) ⟨b0.cell rfl, b1.cell rfl, b1.cell rfl, b1.cell rfl, b1.cell rfl, b2.cell rfl, n3.cell rfl, n3.cell rfl, n3.cell rfl, n3.cell rfl, n3.cell rfl, n3.cell rfl⟩ ?_
  rotate_left
  · (rintro w ⟨s0, s1, s2, s3, s4, s5, s6, s7, s8, s9, s10, s11⟩; go_simp; (first | done | rfl))
  try simp only [Act.put, List.getElem_toArray, List.getElem_cons_zero, List.getElem_cons_succ, List.setIfInBounds_toArray, List.set_cons_zero, List.set_cons_succ]
  refine wpAnyH_take (i := 1) (oi := _) (v := ?_) rfl (by kernel_rfl) (by kernel_rfl) (by kernel_rfl) (fun _ _ _ h => h) (Or.inl ⟨by kernel_rfl, ?_⟩) ⟨b0.cell rfl, b1.cell rfl, b1.cell rfl, b1.cell rfl, b1.cell rfl, b2.cell rfl, n3.cell rfl, n3.cell rfl, n3.cell rfl, n3.cell rfl, n3.cell rfl, n3.cell rfl⟩ ?_
  rotate_left
  · (rintro w ⟨s0, s1, s2, s3, s4, s5, s6, s7, s8, s9, s10, s11⟩; go_simp; (first | done | rfl))
  try simp only [Act.put, List.getElem_toArray, List.getElem_cons_zero, List.getElem_cons_succ, List.setIfInBounds_toArray, List.set_cons_zero, List.set_cons_succ]
  refine wpAnyH_take (i := 2) (oi := _) (v := ?_) rfl (by kernel_rfl) (by kernel_rfl) (by kernel_rfl) (fun _ _ _ h => h) (Or.inl ⟨by kernel_rfl, ?_⟩) ⟨b0.cell rfl, b1.cell rfl, b1.cell rfl, b1.cell rfl, b1.cell rfl, b2.cell rfl, n3.cell rfl, n3.cell rfl, n3.cell rfl, n3.cell rfl, n3.cell rfl, n3.cell rfl⟩ ?_
  rotate_left
  · (rintro w ⟨s0, s1, s2, s3, s4, s5, s6, s7, s8, s9, s10, s11⟩; go_simp; (first | done | rfl))
  try simp only [Act.put, List.getElem_toArray, List.getElem_cons_zero, List.getElem_cons_succ, List.setIfInBounds_toArray, List.set_cons_zero, List.set_cons_succ]
  refine wpAnyH_take (i := 3) (oi := _) (v := ?_) rfl (by kernel_rfl) (by kernel_rfl) (by kernel_rfl) (fun _ _ _ h => h) (Or.inl ⟨by kernel_rfl, ?_⟩) ⟨b0.cell rfl, b1.cell rfl, b1.cell rfl, b1.cell rfl, b1.cell rfl, b2.cell rfl, n3.cell rfl, n3.cell rfl, n3.cell rfl, n3.cell rfl, n3.cell rfl, n3.cell rfl⟩ ?_
  rotate_left
  · (rintro w ⟨s0, s1, s2, s3, s4, s5, s6, s7, s8, s9, s10, s11⟩; go_simp; (first | done | rfl))
  try simp only [Act.put, List.getElem_toArray, List.getElem_cons_zero, List.getElem_cons_succ, List.setIfInBounds_toArray, List.set_cons_zero, List.set_cons_succ]
  refine wpAnyH_take (i := 4) (oi := _) (v := ?_) rfl (by kernel_rfl) (by kernel_rfl) (by kernel_rfl) (fun _ _ _ h => h) (Or.inl ⟨by kernel_rfl, ?_⟩) ⟨b0.cell rfl, b1.cell rfl, b1.cell rfl, b1.cell rfl, b1.cell rfl, b2.cell rfl, n3.cell rfl, n3.cell rfl, n3.cell rfl, n3.cell rfl, n3.cell rfl, n3.cell rfl⟩ ?_
  rotate_left
  · (rintro w ⟨s0, s1, s2, s3, s4, s5, s6, s7, s8, s9, s10, s11⟩; go_simp; (first | done | rfl))
  try simp only [Act.put, List.getElem_toArray, List.getElem_cons_zero, List.getElem_cons_succ, List.setIfInBounds_toArray, List.set_cons_zero, List.set_cons_succ]
  refine wpAnyH_take (i := 5) (oi := _) (v := ?_) rfl (by kernel_rfl) (by kernel_rfl) (by kernel_rfl) (fun _ _ _ h => h) (Or.inl ⟨by kernel_rfl, ?_⟩) ⟨b0.cell rfl, b1.cell rfl, b1.cell rfl, b1.cell rfl, b1.cell rfl, b2.cell rfl, n3.cell rfl, n3.cell rfl, n3.cell rfl, n3.cell rfl, n3.cell rfl, n3.cell rfl⟩ ?_
  rotate_left
  · (rintro w ⟨s0, s1, s2, s3, s4, s5, s6, s7, s8, s9, s10, s11⟩; go_simp; (first | done | rfl))
  try simp only [Act.put, List.getElem_toArray, List.getElem_cons_zero, List.getElem_cons_succ, List.setIfInBounds_toArray, List.set_cons_zero, List.set_cons_succ]
  refine wpAnyH_take (i := 6) (oi := _) (v := ?_) rfl (by kernel_rfl) (by kernel_rfl) (by kernel_rfl) (fun _ _ _ h => h) (Or.inl ⟨by kernel_rfl, ?_⟩) ⟨b0.cell rfl, b1.cell rfl, b1.cell rfl, b1.cell rfl, b1.cell rfl, b2.cell rfl, n3.cell rfl, n3.cell rfl, n3.cell rfl, n3.cell rfl, n3.cell rfl, n3.cell rfl⟩ ?_
  rotate_left
  · (rintro w ⟨s0, s1, s2, s3, s4, s5, s6, s7, s8, s9, s10, s11⟩; go_simp; (first | done | rfl))
  try simp only [Act.put, List.getElem_toArray, List.getElem_cons_zero, List.getElem_cons_succ, List.setIfInBounds_toArray, List.set_cons_zero, List.set_cons_succ]
  refine wpAnyH_take (i := 7) (oi := _) (v := ?_) rfl (by kernel_rfl) (by kernel_rfl) (by kernel_rfl) (fun _ _ _ h => h) (Or.inl ⟨by kernel_rfl, ?_⟩) ⟨b0.cell rfl, b1.cell rfl, b1.cell rfl, b1.cell rfl, b1.cell rfl, b2.cell rfl, n3.cell rfl, n3.cell rfl, n3.cell rfl, n3.cell rfl, n3.cell rfl, n3.cell rfl⟩ ?_
  rotate_left
  · (rintro w ⟨s0, s1, s2, s3, s4, s5, s6, s7, s8, s9, s10, s11⟩; go_simp; (first | done | rfl))
  try simp only [Act.put, List.getElem_toArray, List.getElem_cons_zero, List.getElem_cons_succ, List.setIfInBounds_toArray, List.set_cons_zero, List.set_cons_succ]
  refine wpAnyH_take (i := 8) (oi := _) (v := ?_) rfl (by kernel_rfl) (by kernel_rfl) (by kernel_rfl) (fun _ _ _ h => h) (Or.inl ⟨by kernel_rfl, ?_⟩) ⟨b0.cell rfl, b1.cell rfl, b1.cell rfl, b1.cell rfl, b1.cell rfl, b2.cell rfl, n3.cell rfl, n3.cell rfl, n3.cell rfl, n3.cell rfl, n3.cell rfl, n3.cell rfl⟩ ?_
  rotate_left
  · (rintro w ⟨s0, s1, s2, s3, s4, s5, s6, s7, s8, s9, s10, s11⟩; go_simp; (first | done | rfl))
  try simp only [Act.put, List.getElem_toArray, List.getElem_cons_zero, List.getElem_cons_succ, List.setIfInBounds_toArray, List.set_cons_zero, List.set_cons_succ]
  refine wpAnyH_take (i := 9) (oi := _) (v := ?_) rfl (by kernel_rfl) (by kernel_rfl) (by kernel_rfl) (fun _ _ _ h => h) (Or.inl ⟨by kernel_rfl, ?_⟩) ⟨b0.cell rfl, b1.cell rfl, b1.cell rfl, b1.cell rfl, b1.cell rfl, b2.cell rfl, n3.cell rfl, n3.cell rfl, n3.cell rfl, n3.cell rfl, n3.cell rfl, n3.cell rfl⟩ ?_
  rotate_left
  · (rintro w ⟨s0, s1, s2, s3, s4, s5, s6, s7, s8, s9, s10, s11⟩; go_simp; (first | done | rfl))
  try simp only [Act.put, List.getElem_toArray, List.getElem_cons_zero, List.getElem_cons_succ, List.setIfInBounds_toArray, List.set_cons_zero, List.set_cons_succ]
  refine wpAnyH_take (i := 10) (oi := _) (v := ?_) rfl (by kernel_rfl) (by kernel_rfl) (by kernel_rfl) (fun _ _ _ h => h) (Or.inl ⟨by kernel_rfl, ?_⟩) ⟨b0.cell rfl, b1.cell rfl, b1.cell rfl, b1.cell rfl, b1.cell rfl, b2.cell rfl, n3.cell rfl, n3.cell rfl, n3.cell rfl, n3.cell rfl, n3.cell rfl, n3.cell rfl⟩ ?_
  rotate_left
  · (rintro w ⟨s0, s1, s2, s3, s4, s5, s6, s7, s8, s9, s10, s11⟩; go_simp; (first | done | rfl))
  try simp only [Act.put, List.getElem_toArray, List.getElem_cons_zero, List.getElem_cons_succ, List.setIfInBounds_toArray, List.set_cons_zero, List.set_cons_succ]
  refine wpAnyH_take (i := 11) (oi := _) (v := ?_) rfl (by kernel_rfl) (by kernel_rfl) (by kernel_rfl) (fun _ _ _ h => h) (Or.inl ⟨by kernel_rfl, ?_⟩) ⟨b0.cell rfl, b1.cell rfl, b1.cell rfl, b1.cell rfl, b1.cell rfl, b2.cell rfl, n3.cell rfl, n3.cell rfl, n3.cell rfl, n3.cell rfl, n3.cell rfl, n3.cell rfl⟩ ?_
  rotate_left
  · (rintro w ⟨s0, s1, s2, s3, s4, s5, s6, s7, s8, s9, s10, s11⟩; go_simp; (first | done | rfl))
  try simp only [Act.put, List.getElem_toArray, List.getElem_cons_zero, List.getElem_cons_succ, List.setIfInBounds_toArray, List.set_cons_zero, List.set_cons_succ]
  refine wpAnyH_take (i := 12) (oi := _) (v := ?_) rfl (by kernel_rfl) (by kernel_rfl) (by kernel_rfl) (fun _ _ _ h => h) (Or.inl ⟨by kernel_rfl, ?_⟩) ⟨b0.cell rfl, b1.cell rfl, b1.cell rfl, b1.cell rfl, b1.cell rfl, b2.cell rfl, n3.cell rfl, n3.cell rfl, n3.cell rfl, n3.cell rfl, n3.cell rfl, n3.cell rfl⟩ ?_
  rotate_left
  · (rintro w ⟨s0, s1, s2, s3, s4, s5, s6, s7, s8, s9, s10, s11⟩; go_simp; (first | done | rfl))
  try simp only [Act.put, List.getElem_toArray, List.getElem_cons_zero, List.getElem_cons_succ, List.setIfInBounds_toArray, List.set_cons_zero, List.set_cons_succ]
  refine wpAnyH_take (i := 13) (oi := _) (v := ?_) rfl (by kernel_rfl) (by kernel_rfl) (by kernel_rfl) (fun _ _ _ h => h) (Or.inl ⟨by kernel_rfl, ?_⟩) ⟨b0.cell rfl, b1.cell rfl, b1.cell rfl, b1.cell rfl, b1.cell rfl, b2.cell rfl, n3.cell rfl, n3.cell rfl, n3.cell rfl, n3.cell rfl, n3.cell rfl, n3.cell rfl⟩ ?_
  rotate_left
  · (rintro w ⟨s0, s1, s2, s3, s4, s5, s6, s7, s8, s9, s10, s11⟩; go_simp; (first | done | rfl))
  try simp only [Act.put, List.getElem_toArray, List.getElem_cons_zero, List.getElem_cons_succ, List.setIfInBounds_toArray, List.set_cons_zero, List.set_cons_succ]
  refine wpAnyH_take (i := 14) (oi := _) (v := ?_) rfl (by kernel_rfl) (by kernel_rfl) (by kernel_rfl) (fun _ _ _ h => h) (Or.inl ⟨by kernel_rfl, ?_⟩) ⟨b0.cell rfl, b1.cell rfl, b1.cell rfl, b1.cell rfl, b1.cell rfl, b2.cell rfl, n3.cell rfl, n3.cell rfl, n3.cell rfl, n3.cell rfl, n3.cell rfl, n3.cell rfl⟩ ?_
  rotate_left
  · (rintro w ⟨s0, s1, s2, s3, s4, s5, s6, s7, s8, s9, s10, s11⟩; go_simp; (first | done | rfl))
  try simp only [Act.put, List.getElem_toArray, List.getElem_cons_zero, List.getElem_cons_succ, List.setIfInBounds_toArray, List.set_cons_zero, List.set_cons_succ]
  refine wpAnyH_take (i := 15) (oi := _) (v := ?_) rfl (by kernel_rfl) (by kernel_rfl) (by kernel_rfl) (fun _ _ _ h => h) (Or.inl ⟨by kernel_rfl, ?_⟩) ⟨b0.cell rfl, b1.cell rfl, b1.cell rfl, b1.cell rfl, b1.cell rfl, b2.cell rfl, n3.cell rfl, n3.cell rfl, n3.cell rfl, n3.cell rfl, n3.cell rfl, n3.cell rfl⟩ ?_
  rotate_left
  · (rintro w ⟨s0, s1, s2, s3, s4, s5, s6, s7, s8, s9, s10, s11⟩; go_simp; (first | done | rfl))
  try simp only [Act.put, List.getElem_toArray, List.getElem_cons_zero, List.getElem_cons_succ, List.setIfInBounds_toArray, List.set_cons_zero, List.set_cons_succ]
  refine wpAnyH_take (i := 16) (oi := _) (v := ?_) rfl (by kernel_rfl) (by kernel_rfl) (by kernel_rfl) (fun _ _ _ h => h) (Or.inl ⟨by kernel_rfl, ?_⟩) ⟨b0.cell rfl, b1.cell rfl, b1.cell rfl, b1.cell rfl, b1.cell rfl, b2.cell rfl, n3.cell rfl, n3.cell rfl, n3.cell rfl, n3.cell rfl, n3.cell rfl, n3.cell rfl⟩ ?_
  rotate_left
  · (rintro w ⟨s0, s1, s2, s3, s4, s5, s6, s7, s8, s9, s10, s11⟩; go_simp; (first | done | rfl))
  try simp only [Act.put, List.getElem_toArray, List.getElem_cons_zero, List.getElem_cons_succ, List.setIfInBounds_toArray, List.set_cons_zero, List.set_cons_succ]
  refine wpAnyH_ready (rs := [17]) (by kernel_rfl) (by simp) (AllReadyH.cons (o := _) rfl (fun K hK => ?_) AllReadyH.nil)
  rw [if_pos (by kernel_rfl)]
  refine wp_fn 86 _ _ rfl _ rfl enters_join (ih _ aR ah x tR.drew tot.drew fx) ?_
  rintro e w4 ⟨a4, rfl, ht4, hb4⟩
  have hB4 : Below w3.heap.size w3 w4 := below_undrew hb4
  refine ⟨_, rfl, ?_⟩
  refine hK.out _ _ ⟨(b0.keep hB4).cell rfl, (b1.keep hB4).cell rfl, (b1.keep hB4).cell rfl, (b1.keep hB4).cell rfl, (b1.keep hB4).cell rfl, (b2.keep hB4).cell rfl, (n3.keep hB4).cell rfl, (n3.keep hB4).cell rfl, (n3.keep hB4).cell rfl, (n3.keep hB4).cell rfl, (n3.keep hB4).cell rfl, (n3.keep hB4).cell rfl⟩ (fun _ => ?_)
  clear hK K
  try simp only [Act.put, List.getElem_toArray, List.getElem_cons_zero, List.getElem_cons_succ, List.setIfInBounds_toArray, List.set_cons_zero, List.set_cons_succ]
  refine wpAnyH_ready (rs := [18]) (by kernel_rfl) (by simp) (AllReadyH.cons (o := _) rfl (fun K hK => ?_) AllReadyH.nil)
  rw [if_pos (by kernel_rfl)]
  refine wp_fn 90 _ _ rfl _ rfl enters_level (level_ _ S L _ aL a4 kx (tL.below hB4) ht4 fkx hs2 h1 h2) ?_
  rintro e w5 ⟨a5, rfl, ht5, hb5⟩
  have hB5 : Below w3.heap.size w3 w5 := below_step hB4 hb5 (Nat.le_refl _)
  refine ⟨_, rfl, ?_⟩
  refine hK.out _ _ ⟨(b0.keep hB5).cell rfl, (b1.keep hB5).cell rfl, (b1.keep hB5).cell rfl, (b1.keep hB5).cell rfl, (b1.keep hB5).cell rfl, (b2.keep hB5).cell rfl, (n3.keep hB5).cell rfl, (n3.keep hB5).cell rfl, (n3.keep hB5).cell rfl, (n3.keep hB5).cell rfl, (n3.keep hB5).cell rfl, (n3.keep hB5).cell rfl⟩ (fun _ => ?_)
  clear hK K
  try simp only [Act.put, List.getElem_toArray, List.getElem_cons_zero, List.getElem_cons_succ, List.setIfInBounds_toArray, List.set_cons_zero, List.set_cons_succ]
  refine wpAnyH_ready (rs := [19]) (by kernel_rfl) (by simp) (AllReadyH.cons (o := _) rfl (fun K hK => ?_) AllReadyH.nil)
  rw [if_pos (by kernel_rfl)]
  refine wp_store_blk 103 _ _ rfl (w.heap.size + 1 + 1 + 1) 103 _ #[.pointer a5] (b3.keep hB5) rfl rfl rfl size_tree (one_ptr _) ?_
  intro w10 hk10 ht10
  refine hK.out _ _ ⟨(ht10.blk (b0.keep hB5) (by omega)).cell rfl, (ht10.blk (b1.keep hB5) (by omega)).cell rfl, (ht10.blk (b1.keep hB5) (by omega)).cell rfl, (ht10.blk (b1.keep hB5) (by omega)).cell rfl, (ht10.blk (b1.keep hB5) (by omega)).cell rfl, (ht10.blk (b2.keep hB5) (by omega)).cell rfl, (ht10.blk (n3.keep hB5) (by omega)).cell rfl, (ht10.blk (n3.keep hB5) (by omega)).cell rfl, (ht10.blk (n3.keep hB5) (by omega)).cell rfl, (ht10.blk (n3.keep hB5) (by omega)).cell rfl, (ht10.blk (n3.keep hB5) (by omega)).cell rfl, (ht10.blk (n3.keep hB5) (by omega)).cell rfl⟩ (fun _ => ?_)
  clear hK K
  try simp only [Act.put, List.getElem_toArray, List.getElem_cons_zero, List.getElem_cons_succ, List.setIfInBounds_toArray, List.set_cons_zero, List.set_cons_succ]
  refine wpAnyH_done (by kernel_rfl) ?_ _
  refine NoPanic.normal ?_
  go_wp2
  refine bodyPost_ret (results_tr rfl rfl hk10) rfl ?_
  have hB10 : Below w.heap.size w w10 := (hB3.trans (hB5.mono hB3.size)).trans (ht10.below (by omega) (by have := (hB3.trans (hB5.mono hB3.size)).size; omega))
  exact ⟨_, rfl, ht5.var (b3.keep hB5) ht10, hB10⟩
set_option maxRecDepth 100000 in
set_option maxHeartbeats 4000000 in
theorem join_hi (nf : Bool) (L R lo : Tr) (kx : Ext) (al ah : Option Addr) (x : Ext) (hl : Tree w S al lo) (hh : Tree w S ah (Tr.node nf L kx R)) (fx : Fit x) (ih : JoinsT S lo L)
    (hs : (Tr.node nf L kx R).size + lo.size ≤ 1000000) (hs2 : R.size + (joinT lo x L).size ≤ 1000000) (hd : lo.deep + 1 < (Tr.node nf L kx R).deep) (h1 : R.deep ≤ (joinT lo x L).deep + 2) (h2 : (joinT lo x L).deep ≤ R.deep + 2) :
    Calls Try.prog 86 #[.agg #[.pointer al], .agg #[.int .i64 x.off, .int .i64 x.len, .int .i64 x.phys, .int .i64 x.birth], .agg #[.pointer ah]] w fun e w' => ∃ a, e = .returned (.agg #[.pointer a]) ∧ Tree w' S a (balT (joinT lo x L) kx R) ∧ Below w.heap.size w w' := by
  have hdl := Tr.deep_size (Tr.node nf L kx R)
  have hdo := Tr.deep_size lo
  obtain ⟨t, ht⟩ : ∃ t, t = Tr.node nf L kx R := ⟨_, rfl⟩
  obtain ⟨d, hde⟩ : ∃ d : Int, d = (lo.deep : Int) - (t.deep : Int) := ⟨_, rfl⟩
  have hwd : IntKind.i64.wrap ((lo.deep : Int) - (t.deep : Int)) = d := by rw [hde, ht, IntKind.wrap_i64]; omega
  have hd1 : ¬ 1 < d := by rw [hde, ht]; omega
  have hd2 : d < -1 := by rw [hde, ht]; omega
  have hbig := hh
  obtain ⟨bl, aL, aR, rfl, hbl, fkx, -, hL, hR⟩ := hh
  rw [← ht] at hbig
  clear hs hd hdl hdo ht hde
  obtain ⟨w1, hw1d, b0, b1, b2, b3, hB1⟩ := boxes3 w al (some ⟨bl, 0, none⟩) x
  have hg1 := hbig.below hB1
  have ho1 := hl.below hB1
  go_enter Try.func86, Try.ntmps86
  go_wp2_with fail
  rw [← hw1d]
  clear hw1d
  generalize hg : w.heap.size = g at *
  refine wp_region_noPanic ?_
  refine wp_region_held_drew (S := (fun w' => w'.cell? ⟨g, 0, none⟩ = some (.pointer al) ∧ w'.cell? ⟨g + 1 + 1, 0, none⟩ = some (.pointer (some ⟨bl, 0, none⟩)))) (by kernel_rfl) ⟨b0.cell rfl, b2.cell rfl⟩ (fun _ => ?_)
  refine wpAnyH_take (i := 0) (oi := _) (v := ?_) rfl (by kernel_rfl) (by kernel_rfl) (by kernel_rfl) (fun _ _ _ h => h) (Or.inl ⟨by kernel_rfl, ?_⟩) ⟨b0.cell rfl, b2.cell rfl⟩ ?_
  rotate_left
  · (rintro w ⟨s0, s1⟩; go_simp; (first | done | rfl))
  try simp only [Act.put, List.getElem_toArray, List.getElem_cons_zero, List.getElem_cons_succ, List.setIfInBounds_toArray, List.set_cons_zero, List.set_cons_succ]
  refine wpAnyH_take (i := 2) (oi := _) (v := ?_) rfl (by kernel_rfl) (by kernel_rfl) (by kernel_rfl) (fun _ _ _ h => h) (Or.inl ⟨by kernel_rfl, ?_⟩) ⟨b0.cell rfl, b2.cell rfl⟩ ?_
  rotate_left
  · (rintro w ⟨s0, s1⟩; go_simp; (first | done | rfl))
  try simp only [Act.put, List.getElem_toArray, List.getElem_cons_zero, List.getElem_cons_succ, List.setIfInBounds_toArray, List.set_cons_zero, List.set_cons_succ]
  refine wpAnyH_ready (rs := [1]) (by kernel_rfl) (by simp) (AllReadyH.cons (o := _) rfl (fun K hK => ?_) AllReadyH.nil)
  rw [if_pos (by kernel_rfl)]
  refine wp_fn 89 _ _ rfl _ rfl enters_deep (deep_ _ S lo al ho1.drew) ?_
  rintro e w2 ⟨rfl, hb2⟩
  have hB2 : Below w1.heap.size w1 w2 := below_undrew hb2
  refine ⟨_, rfl, ?_⟩
  refine hK.out _ _ ⟨(b0.keep hB2).cell rfl, (b2.keep hB2).cell rfl⟩ (fun _ => ?_)
  clear hK K
  try simp only [Act.put, List.getElem_toArray, List.getElem_cons_zero, List.getElem_cons_succ, List.setIfInBounds_toArray, List.set_cons_zero, List.set_cons_succ]
  refine wpAnyH_ready (rs := [3]) (by kernel_rfl) (by simp) (AllReadyH.cons (o := _) rfl (fun K hK => ?_) AllReadyH.nil)
  rw [if_pos (by kernel_rfl)]
  refine wp_fn 89 _ _ rfl _ rfl enters_deep (deep_ _ S t (some ⟨bl, 0, none⟩) (hg1.below hB2)) ?_
  rintro e w3 ⟨rfl, hb3⟩
  have hB3 : Below w1.heap.size w1 w3 := below_step hB2 hb3 (Nat.le_refl _)
  refine ⟨_, rfl, ?_⟩
  refine hK.out _ _ ⟨(b0.keep hB3).cell rfl, (b2.keep hB3).cell rfl⟩ (fun _ => ?_)
  clear hK K
  try simp only [Act.put, List.getElem_toArray, List.getElem_cons_zero, List.getElem_cons_succ, List.setIfInBounds_toArray, List.set_cons_zero, List.set_cons_succ]
  refine wpAnyH_take (i := 4) (oi := _) (v := ?_) rfl (by kernel_rfl) (by kernel_rfl) (by kernel_rfl) (fun _ _ _ h => h) (Or.inl ⟨by kernel_rfl, ?_⟩) ⟨(b0.keep hB3).cell rfl, (b2.keep hB3).cell rfl⟩ ?_
  rotate_left
  · (rintro w ⟨s0, s1⟩; go_simp; (first | done | rfl))
  try simp only [Act.put, List.getElem_toArray, List.getElem_cons_zero, List.getElem_cons_succ, List.setIfInBounds_toArray, List.set_cons_zero, List.set_cons_succ]
  refine wpAnyH_take (i := 5) (oi := _) (v := ?_) rfl (by kernel_rfl) (by kernel_rfl) (by kernel_rfl) (fun _ _ _ h => h) (Or.inl ⟨by kernel_rfl, ?_⟩) ⟨(b0.keep hB3).cell rfl, (b2.keep hB3).cell rfl⟩ ?_
  rotate_left
  · (rintro w ⟨s0, s1⟩; go_simp; (first | done | rfl))
  try simp only [Act.put, List.getElem_toArray, List.getElem_cons_zero, List.getElem_cons_succ, List.setIfInBounds_toArray, List.set_cons_zero, List.set_cons_succ]
  refine wpAnyH_done (by kernel_rfl) ?_ _
  refine NoPanic.normal ?_
  replace b0 := b0.keep hB3
  replace b1 := b1.keep hB3
  replace b2 := b2.keep hB3
  replace b3 := b3.keep hB3
  replace hB3 := hB1.trans (hB3.mono (by have := hB1.size; omega))
  subst hg
  clear hb2 hb3 hB2 hg1 ho1
  have n3 := hbl.below hB3 hbl.lt
  have hlbl := hbl.lt
  have hlt3 := b3.lt
  have tL := hL.below hB3
  have tR := hR.below hB3
  have tot := hl.below hB3
  go_wp2_with fail
  refine wp_region_noPanic ?_
  refine wp_region_held_drew (S := (fun w' => w'.cell? ⟨w.heap.size, 0, none⟩ = some (.pointer al) ∧ w'.cell? ⟨w.heap.size + 1, 0, none⟩ = some (.int .i64 x.off) ∧ w'.cell? ⟨w.heap.size + 1, 1, none⟩ = some (.int .i64 x.len) ∧ w'.cell? ⟨w.heap.size + 1, 2, none⟩ = some (.int .i64 x.phys) ∧ w'.cell? ⟨w.heap.size + 1, 3, none⟩ = some (.int .i64 x.birth) ∧ w'.cell? ⟨w.heap.size + 1 + 1, 0, none⟩ = some (.pointer (some ⟨bl, 0, none⟩)) ∧ w'.cell? ⟨bl, 0, none⟩ = some (.int .i64 kx.off) ∧ w'.cell? ⟨bl, 1, none⟩ = some (.int .i64 kx.len) ∧ w'.cell? ⟨bl, 2, none⟩ = some (.int .i64 kx.phys) ∧ w'.cell? ⟨bl, 3, none⟩ = some (.int .i64 kx.birth) ∧ w'.cell? ⟨bl, 4, none⟩ = some (.pointer aL) ∧ w'.cell? ⟨bl, 5, none⟩ = some (.pointer aR))) (by kernel_rfl) ⟨b0.cell rfl, b1.cell rfl, b1.cell rfl, b1.cell rfl, b1.cell rfl, b2.cell rfl, n3.cell rfl, n3.cell rfl, n3.cell rfl, n3.cell rfl, n3.cell rfl, n3.cell rfl⟩ (fun _ => ?_)
  refine wpAnyH_take (i := 0) (oi := _) (v := ?_) rfl (by kernel_rfl) (by kernel_rfl) (by kernel_rfl) (fun _ _ _ h => h) (Or.inl ⟨by kernel_rfl, ?_⟩) ⟨b0.cell rfl, b1.cell rfl, b1.cell rfl, b1.cell rfl, b1.cell rfl, b2.cell rfl, n3.cell rfl, n3.cell rfl, n3.cell rfl, n3.cell rfl, n3.cell rfl, n3.cell rfl⟩ ?_
  rotate_left
  · (rintro w ⟨s0, s1, s2, s3, s4, s5, s6, s7, s8, s9, s10, s11⟩; go_simp; (first | done | rfl))
  try simp only [Act.put, List.getElem_toArray, List.getElem_cons_zero, List.getElem_cons_succ, List.setIfInBounds_toArray, List.set_cons_zero, List.set_cons_succ]
  refine wpAnyH_take (i := 1) (oi := _) (v := ?_) rfl (by kernel_rfl) (by kernel_rfl) (by kernel_rfl) (fun _ _ _ h => h) (Or.inl ⟨by kernel_rfl, ?_⟩) ⟨b0.cell rfl, b1.cell rfl, b1.cell rfl, b1.cell rfl, b1.cell rfl, b2.cell rfl, n3.cell rfl, n3.cell rfl, n3.cell rfl, n3.cell rfl, n3.cell rfl, n3.cell rfl⟩ ?_
  rotate_left
  · (rintro w ⟨s0, s1, s2, s3, s4, s5, s6, s7, s8, s9, s10, s11⟩; go_simp; (first | done | rfl))
  try simp only [Act.put, List.getElem_toArray, List.getElem_cons_zero, List.getElem_cons_succ, List.setIfInBounds_toArray, List.set_cons_zero, List.set_cons_succ]
  refine wpAnyH_take (i := 2) (oi := _) (v := ?_) rfl (by kernel_rfl) (by kernel_rfl) (by kernel_rfl) (fun _ _ _ h => h) (Or.inl ⟨by kernel_rfl, ?_⟩) ⟨b0.cell rfl, b1.cell rfl, b1.cell rfl, b1.cell rfl, b1.cell rfl, b2.cell rfl, n3.cell rfl, n3.cell rfl, n3.cell rfl, n3.cell rfl, n3.cell rfl, n3.cell rfl⟩ ?_
  rotate_left
  · (rintro w ⟨s0, s1, s2, s3, s4, s5, s6, s7, s8, s9, s10, s11⟩; go_simp; (first | done | rfl))
  try simp only [Act.put, List.getElem_toArray, List.getElem_cons_zero, List.getElem_cons_succ, List.setIfInBounds_toArray, List.set_cons_zero, List.set_cons_succ]
  refine wpAnyH_take (i := 3) (oi := _) (v := ?_) rfl (by kernel_rfl) (by kernel_rfl) (by kernel_rfl) (fun _ _ _ h => h) (Or.inl ⟨by kernel_rfl, ?_⟩) ⟨b0.cell rfl, b1.cell rfl, b1.cell rfl, b1.cell rfl, b1.cell rfl, b2.cell rfl, n3.cell rfl, n3.cell rfl, n3.cell rfl, n3.cell rfl, n3.cell rfl, n3.cell rfl⟩ ?_
  rotate_left
  · (rintro w ⟨s0, s1, s2, s3, s4, s5, s6, s7, s8, s9, s10, s11⟩; go_simp; (first | done | rfl))
  try simp only [Act.put, List.getElem_toArray, List.getElem_cons_zero, List.getElem_cons_succ, List.setIfInBounds_toArray, List.set_cons_zero, List.set_cons_succ]
  refine wpAnyH_take (i := 4) (oi := _) (v := ?_) rfl (by kernel_rfl) (by kernel_rfl) (by kernel_rfl) (fun _ _ _ h => h) (Or.inl ⟨by kernel_rfl, ?_⟩) ⟨b0.cell rfl, b1.cell rfl, b1.cell rfl, b1.cell rfl, b1.cell rfl, b2.cell rfl, n3.cell rfl, n3.cell rfl, n3.cell rfl, n3.cell rfl, n3.cell rfl, n3.cell rfl⟩ ?_
  rotate_left
  · (rintro w ⟨s0, s1, s2, s3, s4, s5, s6, s7, s8, s9, s10, s11⟩; go_simp; (first | done | rfl))
  try simp only [Act.put, List.getElem_toArray, List.getElem_cons_zero, List.getElem_cons_succ, List.setIfInBounds_toArray, List.set_cons_zero, List.set_cons_succ]
  refine wpAnyH_take (i := 5) (oi := _) (v := ?_) rfl (by kernel_rfl) (by kernel_rfl) (by kernel_rfl) (fun _ _ _ h => h) (Or.inl ⟨by kernel_rfl, ?_⟩) ⟨b0.cell rfl, b1.cell rfl, b1.cell rfl, b1.cell rfl, b1.cell rfl, b2.cell rfl, n3.cell rfl, n3.cell rfl, n3.cell rfl, n3.cell rfl, n3.cell rfl, n3.cell rfl⟩ ?_
  rotate_left
  · (rintro w ⟨s0, s1, s2, s3, s4, s5, s6, s7, s8, s9, s10, s11⟩; go_simp; (first | done | rfl))
  try simp only [Act.put, List.getElem_toArray, List.getElem_cons_zero, List.getElem_cons_succ, List.setIfInBounds_toArray, List.set_cons_zero, List.set_cons_succ]
  refine wpAnyH_take (i := 6) (oi := _) (v := ?_) rfl (by kernel_rfl) (by kernel_rfl) (by kernel_rfl) (fun _ _ _ h => h) (Or.inl ⟨by kernel_rfl, ?_⟩) ⟨b0.cell rfl, b1.cell rfl, b1.cell rfl, b1.cell rfl, b1.cell rfl, b2.cell rfl, n3.cell rfl, n3.cell rfl, n3.cell rfl, n3.cell rfl, n3.cell rfl, n3.cell rfl⟩ ?_
  rotate_left
  · (rintro w ⟨s0, s1, s2, s3, s4, s5, s6, s7, s8, s9, s10, s11⟩; go_simp; (first | done | rfl))
  try simp only [Act.put, List.getElem_toArray, List.getElem_cons_zero, List.getElem_cons_succ, List.setIfInBounds_toArray, List.set_cons_zero, List.set_cons_succ]
  refine wpAnyH_take (i := 8) (oi := _) (v := ?_) rfl (by kernel_rfl) (by kernel_rfl) (by kernel_rfl) (fun _ _ _ h => h) (Or.inl ⟨by kernel_rfl, ?_⟩) ⟨b0.cell rfl, b1.cell rfl, b1.cell rfl, b1.cell rfl, b1.cell rfl, b2.cell rfl, n3.cell rfl, n3.cell rfl, n3.cell rfl, n3.cell rfl, n3.cell rfl, n3.cell rfl⟩ ?_
  rotate_left
  · (rintro w ⟨s0, s1, s2, s3, s4, s5, s6, s7, s8, s9, s10, s11⟩; go_simp; (first | done | rfl))
  try simp only [Act.put, List.getElem_toArray, List.getElem_cons_zero, List.getElem_cons_succ, List.setIfInBounds_toArray, List.set_cons_zero, List.set_cons_succ]
  refine wpAnyH_take (i := 9) (oi := _) (v := ?_) rfl (by kernel_rfl) (by kernel_rfl) (by kernel_rfl) (fun _ _ _ h => h) (Or.inl ⟨by kernel_rfl, ?_⟩) ⟨b0.cell rfl, b1.cell rfl, b1.cell rfl, b1.cell rfl, b1.cell rfl, b2.cell rfl, n3.cell rfl, n3.cell rfl, n3.cell rfl, n3.cell rfl, n3.cell rfl, n3.cell rfl⟩ ?_
  rotate_left
  · (rintro w ⟨s0, s1, s2, s3, s4, s5, s6, s7, s8, s9, s10, s11⟩; go_simp; (first | done | rfl))
  try simp only [Act.put, List.getElem_toArray, List.getElem_cons_zero, List.getElem_cons_succ, List.setIfInBounds_toArray, List.set_cons_zero, List.set_cons_succ]
  refine wpAnyH_take (i := 10) (oi := _) (v := ?_) rfl (by kernel_rfl) (by kernel_rfl) (by kernel_rfl) (fun _ _ _ h => h) (Or.inl ⟨by kernel_rfl, ?_⟩) ⟨b0.cell rfl, b1.cell rfl, b1.cell rfl, b1.cell rfl, b1.cell rfl, b2.cell rfl, n3.cell rfl, n3.cell rfl, n3.cell rfl, n3.cell rfl, n3.cell rfl, n3.cell rfl⟩ ?_
  rotate_left
  · (rintro w ⟨s0, s1, s2, s3, s4, s5, s6, s7, s8, s9, s10, s11⟩; go_simp; (first | done | rfl))
  try simp only [Act.put, List.getElem_toArray, List.getElem_cons_zero, List.getElem_cons_succ, List.setIfInBounds_toArray, List.set_cons_zero, List.set_cons_succ]
  refine wpAnyH_take (i := 11) (oi := _) (v := ?_) rfl (by kernel_rfl) (by kernel_rfl) (by kernel_rfl) (fun _ _ _ h => h) (Or.inl ⟨by kernel_rfl, ?_⟩) ⟨b0.cell rfl, b1.cell rfl, b1.cell rfl, b1.cell rfl, b1.cell rfl, b2.cell rfl, n3.cell rfl, n3.cell rfl, n3.cell rfl, n3.cell rfl, n3.cell rfl, n3.cell rfl⟩ ?_
  rotate_left
  · (rintro w ⟨s0, s1, s2, s3, s4, s5, s6, s7, s8, s9, s10, s11⟩; go_simp; (first | done | rfl))
  try simp only [Act.put, List.getElem_toArray, List.getElem_cons_zero, List.getElem_cons_succ, List.setIfInBounds_toArray, List.set_cons_zero, List.set_cons_succ]
  refine wpAnyH_take (i := 12) (oi := _) (v := ?_) rfl (by kernel_rfl) (by kernel_rfl) (by kernel_rfl) (fun _ _ _ h => h) (Or.inl ⟨by kernel_rfl, ?_⟩) ⟨b0.cell rfl, b1.cell rfl, b1.cell rfl, b1.cell rfl, b1.cell rfl, b2.cell rfl, n3.cell rfl, n3.cell rfl, n3.cell rfl, n3.cell rfl, n3.cell rfl, n3.cell rfl⟩ ?_
  rotate_left
  · (rintro w ⟨s0, s1, s2, s3, s4, s5, s6, s7, s8, s9, s10, s11⟩; go_simp; (first | done | rfl))
  try simp only [Act.put, List.getElem_toArray, List.getElem_cons_zero, List.getElem_cons_succ, List.setIfInBounds_toArray, List.set_cons_zero, List.set_cons_succ]
  refine wpAnyH_take (i := 13) (oi := _) (v := ?_) rfl (by kernel_rfl) (by kernel_rfl) (by kernel_rfl) (fun _ _ _ h => h) (Or.inl ⟨by kernel_rfl, ?_⟩) ⟨b0.cell rfl, b1.cell rfl, b1.cell rfl, b1.cell rfl, b1.cell rfl, b2.cell rfl, n3.cell rfl, n3.cell rfl, n3.cell rfl, n3.cell rfl, n3.cell rfl, n3.cell rfl⟩ ?_
  rotate_left
  · (rintro w ⟨s0, s1, s2, s3, s4, s5, s6, s7, s8, s9, s10, s11⟩; go_simp; (first | done | rfl))
  try simp only [Act.put, List.getElem_toArray, List.getElem_cons_zero, List.getElem_cons_succ, List.setIfInBounds_toArray, List.set_cons_zero, List.set_cons_succ]
  refine wpAnyH_take (i := 14) (oi := _) (v := ?_) rfl (by kernel_rfl) (by kernel_rfl) (by kernel_rfl) (fun _ _ _ h => h) (Or.inl ⟨by kernel_rfl, ?_⟩) ⟨b0.cell rfl, b1.cell rfl, b1.cell rfl, b1.cell rfl, b1.cell rfl, b2.cell rfl, n3.cell rfl, n3.cell rfl, n3.cell rfl, n3.cell rfl, n3.cell rfl, n3.cell rfl⟩ ?_
  rotate_left
  · (rintro w ⟨s0, s1, s2, s3, s4, s5, s6, s7, s8, s9, s10, s11⟩; go_simp; (first | done | rfl))
  try simp only [Act.put, List.getElem_toArray, List.getElem_cons_zero, List.getElem_cons_succ, List.setIfInBounds_toArray, List.set_cons_zero, List.set_cons_succ]
  refine wpAnyH_take (i := 15) (oi := _) (v := ?_) rfl (by kernel_rfl) (by kernel_rfl) (by kernel_rfl) (fun _ _ _ h => h) (Or.inl ⟨by kernel_rfl, ?_⟩) ⟨b0.cell rfl, b1.cell rfl, b1.cell rfl, b1.cell rfl, b1.cell rfl, b2.cell rfl, n3.cell rfl, n3.cell rfl, n3.cell rfl, n3.cell rfl, n3.cell rfl, n3.cell rfl⟩ ?_
  rotate_left
  · (rintro w ⟨s0, s1, s2, s3, s4, s5, s6, s7, s8, s9, s10, s11⟩; go_simp; (first | done | rfl))
  try simp only [Act.put, List.getElem_toArray, List.getElem_cons_zero, List.getElem_cons_succ, List.setIfInBounds_toArray, List.set_cons_zero, List.set_cons_succ]
  refine wpAnyH_take (i := 16) (oi := _) (v := ?_) rfl (by kernel_rfl) (by kernel_rfl) (by kernel_rfl) (fun _ _ _ h => h) (Or.inl ⟨by kernel_rfl, ?_⟩) ⟨b0.cell rfl, b1.cell rfl, b1.cell rfl, b1.cell rfl, b1.cell rfl, b2.cell rfl, n3.cell rfl, n3.cell rfl, n3.cell rfl, n3.cell rfl, n3.cell rfl, n3.cell rfl⟩ ?_
  rotate_left
  · (rintro w ⟨s0, s1, s2, s3, s4, s5, s6, s7, s8, s9, s10, s11⟩; go_simp; (first | done | rfl))
  try simp only [Act.put, List.getElem_toArray, List.getElem_cons_zero, List.getElem_cons_succ, List.setIfInBounds_toArray, List.set_cons_zero, List.set_cons_succ]
  refine wpAnyH_take (i := 17) (oi := _) (v := ?_) rfl (by kernel_rfl) (by kernel_rfl) (by kernel_rfl) (fun _ _ _ h => h) (Or.inl ⟨by kernel_rfl, ?_⟩) ⟨b0.cell rfl, b1.cell rfl, b1.cell rfl, b1.cell rfl, b1.cell rfl, b2.cell rfl, n3.cell rfl, n3.cell rfl, n3.cell rfl, n3.cell rfl, n3.cell rfl, n3.cell rfl⟩ ?_
  rotate_left
  · (rintro w ⟨s0, s1, s2, s3, s4, s5, s6, s7, s8, s9, s10, s11⟩; go_simp; (first | done | rfl))
  try simp only [Act.put, List.getElem_toArray, List.getElem_cons_zero, List.getElem_cons_succ, List.setIfInBounds_toArray, List.set_cons_zero, List.set_cons_succ]
  refine wpAnyH_ready (rs := [7]) (by kernel_rfl) (by simp) (AllReadyH.cons (o := _) rfl (fun K hK => ?_) AllReadyH.nil)
  rw [if_pos (by kernel_rfl)]
  refine wp_fn 86 _ _ rfl _ rfl enters_join (ih _ al aL x tot.drew tL.drew fx) ?_
  rintro e w4 ⟨a4, rfl, ht4, hb4⟩
  have hB4 : Below w3.heap.size w3 w4 := below_undrew hb4
  refine ⟨_, rfl, ?_⟩
  refine hK.out _ _ ⟨(b0.keep hB4).cell rfl, (b1.keep hB4).cell rfl, (b1.keep hB4).cell rfl, (b1.keep hB4).cell rfl, (b1.keep hB4).cell rfl, (b2.keep hB4).cell rfl, (n3.keep hB4).cell rfl, (n3.keep hB4).cell rfl, (n3.keep hB4).cell rfl, (n3.keep hB4).cell rfl, (n3.keep hB4).cell rfl, (n3.keep hB4).cell rfl⟩ (fun _ => ?_)
  clear hK K
  try simp only [Act.put, List.getElem_toArray, List.getElem_cons_zero, List.getElem_cons_succ, List.setIfInBounds_toArray, List.set_cons_zero, List.set_cons_succ]
  refine wpAnyH_ready (rs := [18]) (by kernel_rfl) (by simp) (AllReadyH.cons (o := _) rfl (fun K hK => ?_) AllReadyH.nil)
  rw [if_pos (by kernel_rfl)]
  refine wp_fn 90 _ _ rfl _ rfl enters_level (level_ _ S _ R a4 aR kx ht4 (tR.below hB4) fkx (by omega) h2 h1) ?_
  rintro e w5 ⟨a5, rfl, ht5, hb5⟩
  have hB5 : Below w3.heap.size w3 w5 := below_step hB4 hb5 (Nat.le_refl _)
  refine ⟨_, rfl, ?_⟩
  refine hK.out _ _ ⟨(b0.keep hB5).cell rfl, (b1.keep hB5).cell rfl, (b1.keep hB5).cell rfl, (b1.keep hB5).cell rfl, (b1.keep hB5).cell rfl, (b2.keep hB5).cell rfl, (n3.keep hB5).cell rfl, (n3.keep hB5).cell rfl, (n3.keep hB5).cell rfl, (n3.keep hB5).cell rfl, (n3.keep hB5).cell rfl, (n3.keep hB5).cell rfl⟩ (fun _ => ?_)
  clear hK K
  try simp only [Act.put, List.getElem_toArray, List.getElem_cons_zero, List.getElem_cons_succ, List.setIfInBounds_toArray, List.set_cons_zero, List.set_cons_succ]
  refine wpAnyH_ready (rs := [19]) (by kernel_rfl) (by simp) (AllReadyH.cons (o := _) rfl (fun K hK => ?_) AllReadyH.nil)
  rw [if_pos (by kernel_rfl)]
  refine wp_store_blk 103 _ _ rfl (w.heap.size + 1 + 1 + 1) 103 _ #[.pointer a5] (b3.keep hB5) rfl rfl rfl size_tree (one_ptr _) ?_
  intro w10 hk10 ht10
  refine hK.out _ _ ⟨(ht10.blk (b0.keep hB5) (by omega)).cell rfl, (ht10.blk (b1.keep hB5) (by omega)).cell rfl, (ht10.blk (b1.keep hB5) (by omega)).cell rfl, (ht10.blk (b1.keep hB5) (by omega)).cell rfl, (ht10.blk (b1.keep hB5) (by omega)).cell rfl, (ht10.blk (b2.keep hB5) (by omega)).cell rfl, (ht10.blk (n3.keep hB5) (by omega)).cell rfl, (ht10.blk (n3.keep hB5) (by omega)).cell rfl, (ht10.blk (n3.keep hB5) (by omega)).cell rfl, (ht10.blk (n3.keep hB5) (by omega)).cell rfl, (ht10.blk (n3.keep hB5) (by omega)).cell rfl, (ht10.blk (n3.keep hB5) (by omega)).cell rfl⟩ (fun _ => ?_)
  clear hK K
  try simp only [Act.put, List.getElem_toArray, List.getElem_cons_zero, List.getElem_cons_succ, List.setIfInBounds_toArray, List.set_cons_zero, List.set_cons_succ]
  refine wpAnyH_done (by kernel_rfl) ?_ _
  refine NoPanic.normal ?_
  go_wp2
  refine bodyPost_ret (results_tr rfl rfl hk10) rfl ?_
  have hB10 : Below w.heap.size w w10 := (hB3.trans (hB5.mono hB3.size)).trans (ht10.below (by omega) (by have := (hB3.trans (hB5.mono hB3.size)).size; omega))
  exact ⟨_, rfl, ht5.var (b3.keep hB5) ht10, hB10⟩
set_option maxRecDepth 100000 in
set_option maxHeartbeats 4000000 in
theorem join_even (lo hi : Tr) (al ah : Option Addr) (x : Ext) (hl : Tree w S al lo) (hh : Tree w S ah hi) (fx : Fit x) (hs : lo.size + hi.size ≤ 1000000) (h1 : lo.deep ≤ hi.deep + 1) (h2 : hi.deep ≤ lo.deep + 1) :
    Calls Try.prog 86 #[.agg #[.pointer al], .agg #[.int .i64 x.off, .int .i64 x.len, .int .i64 x.phys, .int .i64 x.birth], .agg #[.pointer ah]] w fun e w' => ∃ a, e = .returned (.agg #[.pointer a]) ∧ Tree w' S a (.node true lo x hi) ∧ Below w.heap.size w w' := by
  obtain ⟨d, hd⟩ : ∃ d : Int, d = (lo.deep : Int) - (hi.deep : Int) := ⟨_, rfl⟩
  have hdl := Tr.deep_size lo
  have hdh := Tr.deep_size hi
  have hwd : IntKind.i64.wrap ((lo.deep : Int) - (hi.deep : Int)) = d := by rw [IntKind.wrap_i64]; omega
  have hd1 : ¬ 1 < d := by omega
  have hd2 : ¬ d < -1 := by omega
  clear hd hdl hdh h1 h2
  obtain ⟨w1, hw1d, b0, b1, b2, b3, hB1⟩ := boxes3 w al ah x
  have hl1 := hl.below hB1
  have hh1 := hh.below hB1
  go_enter Try.func86, Try.ntmps86
  go_wp2_with fail
  rw [← hw1d]
  clear hw1d
  generalize hg : w.heap.size = g at *
  refine wp_region_noPanic ?_
  refine wp_region_held_drew (S := (fun w' => w'.cell? ⟨g, 0, none⟩ = some (.pointer al) ∧ w'.cell? ⟨g + 1 + 1, 0, none⟩ = some (.pointer ah))) (by kernel_rfl) ⟨b0.cell rfl, b2.cell rfl⟩ (fun _ => ?_)
  refine wpAnyH_take (i := 0) (oi := _) (v := ?_) rfl (by kernel_rfl) (by kernel_rfl) (by kernel_rfl) (fun _ _ _ h => h) (Or.inl ⟨by kernel_rfl, ?_⟩) ⟨b0.cell rfl, b2.cell rfl⟩ ?_
  rotate_left
  · (rintro w ⟨s0, s1⟩; go_simp; (first | done | rfl))
  try simp only [Act.put, List.getElem_toArray, List.getElem_cons_zero, List.getElem_cons_succ, List.setIfInBounds_toArray, List.set_cons_zero, List.set_cons_succ]
  refine wpAnyH_take (i := 2) (oi := _) (v := ?_) rfl (by kernel_rfl) (by kernel_rfl) (by kernel_rfl) (fun _ _ _ h => h) (Or.inl ⟨by kernel_rfl, ?_⟩) ⟨b0.cell rfl, b2.cell rfl⟩ ?_
  rotate_left
  · (rintro w ⟨s0, s1⟩; go_simp; (first | done | rfl))
  try simp only [Act.put, List.getElem_toArray, List.getElem_cons_zero, List.getElem_cons_succ, List.setIfInBounds_toArray, List.set_cons_zero, List.set_cons_succ]
  refine wpAnyH_ready (rs := [1]) (by kernel_rfl) (by simp) (AllReadyH.cons (o := _) rfl (fun K hK => ?_) AllReadyH.nil)
  rw [if_pos (by kernel_rfl)]
  refine wp_fn 89 _ _ rfl _ rfl enters_deep (deep_ _ S lo al hl1.drew) ?_
  rintro e w2 ⟨rfl, hb2⟩
  have hB2 : Below w1.heap.size w1 w2 := below_undrew hb2
  refine ⟨_, rfl, ?_⟩
  refine hK.out _ _ ⟨(b0.keep hB2).cell rfl, (b2.keep hB2).cell rfl⟩ (fun _ => ?_)
  clear hK K
  try simp only [Act.put, List.getElem_toArray, List.getElem_cons_zero, List.getElem_cons_succ, List.setIfInBounds_toArray, List.set_cons_zero, List.set_cons_succ]
  refine wpAnyH_ready (rs := [3]) (by kernel_rfl) (by simp) (AllReadyH.cons (o := _) rfl (fun K hK => ?_) AllReadyH.nil)
  rw [if_pos (by kernel_rfl)]
  refine wp_fn 89 _ _ rfl _ rfl enters_deep (deep_ _ S hi ah (hh1.below hB2)) ?_
  rintro e w3 ⟨rfl, hb3⟩
  have hB3 : Below w1.heap.size w1 w3 := below_step hB2 hb3 (Nat.le_refl _)
  refine ⟨_, rfl, ?_⟩
  refine hK.out _ _ ⟨(b0.keep hB3).cell rfl, (b2.keep hB3).cell rfl⟩ (fun _ => ?_)
  clear hK K
  try simp only [Act.put, List.getElem_toArray, List.getElem_cons_zero, List.getElem_cons_succ, List.setIfInBounds_toArray, List.set_cons_zero, List.set_cons_succ]
  refine wpAnyH_take (i := 4) (oi := _) (v := ?_) rfl (by kernel_rfl) (by kernel_rfl) (by kernel_rfl) (fun _ _ _ h => h) (Or.inl ⟨by kernel_rfl, ?_⟩) ⟨(b0.keep hB3).cell rfl, (b2.keep hB3).cell rfl⟩ ?_
  rotate_left
  · (rintro w ⟨s0, s1⟩; go_simp; (first | done | rfl))
  try simp only [Act.put, List.getElem_toArray, List.getElem_cons_zero, List.getElem_cons_succ, List.setIfInBounds_toArray, List.set_cons_zero, List.set_cons_succ]
  refine wpAnyH_take (i := 5) (oi := _) (v := ?_) rfl (by kernel_rfl) (by kernel_rfl) (by kernel_rfl) (fun _ _ _ h => h) (Or.inl ⟨by kernel_rfl, ?_⟩) ⟨(b0.keep hB3).cell rfl, (b2.keep hB3).cell rfl⟩ ?_
  rotate_left
  · (rintro w ⟨s0, s1⟩; go_simp; (first | done | rfl))
  try simp only [Act.put, List.getElem_toArray, List.getElem_cons_zero, List.getElem_cons_succ, List.setIfInBounds_toArray, List.set_cons_zero, List.set_cons_succ]
  refine wpAnyH_done (by kernel_rfl) ?_ _
  refine NoPanic.normal ?_
  replace b0 := b0.keep hB3
  replace b1 := b1.keep hB3
  replace b2 := b2.keep hB3
  replace b3 := b3.keep hB3
  replace hB3 := hB1.trans (hB3.mono (by have := hB1.size; omega))
  subst hg
  clear hb2 hb3 hB2 hl1 hh1
  have e0 := b0.cell (j := 0) (u := .pointer al) rfl
  have e1 := b1.cell (j := 0) (u := .int .i64 x.off) rfl
  have e2 := b1.cell (j := 1) (u := .int .i64 x.len) rfl
  have e3 := b1.cell (j := 2) (u := .int .i64 x.phys) rfl
  have e4 := b1.cell (j := 3) (u := .int .i64 x.birth) rfl
  have e5 := b2.cell (j := 0) (u := .pointer ah) rfl
  go_wp2_with fail
  refine (grow_ _ S lo hi al ah x (hl.below hB3) (hh.below hB3) fx hs).mono ?_
  rintro e w4 ⟨a4, rfl, ht4, hb4⟩
  have b34 := b3.keep hb4
  have f0 := b34.free 0
  have k0 := b34.cell (j := 0) (u := .pointer none) rfl
  go_wp2
  refine bodyPost_ret (results_tr rfl rfl (b34.setCell 0 (.pointer a4))) rfl ?_
  exact ⟨_, rfl, ht4.var b34 (Tn.set _ _ _ (Nat.le_refl _) (Nat.lt_succ_self _)), (hB3.trans (hb4.mono hB3.size)).trans ((Tn.set (lo := w.heap.size + 1 + 1 + 1) (hi := w.heap.size + 1 + 1 + 1 + 1) _ _ _ (Nat.le_refl _) (Nat.lt_succ_self _)).below (by omega) (by have := hB3.size; have := hb4.size; omega))⟩
end
theorem tjoin_ (S : Nat → Prop) : ∀ {lo hi : Tr}, lo.bal → hi.bal → lo.size + hi.size ≤ 1000000 → JoinsT S lo hi := by
  intro lo hi
  induction hn : lo.size + hi.size using Nat.strongRecOn generalizing lo hi with
  | ind n ih =>
    intro hl hh hs w al ah x tl th fx
    unfold joinT
    by_cases c1 : hi.deep + 1 < lo.deep
    · rw [if_pos c1]
      cases lo with
      | nil => simp [Tr.deep] at c1
      | node nf ll lx lr =>
        obtain ⟨b1, b2, b3, b4⟩ := (Tr.bal_node _ _ _ _).1 hl
        have hi0 := ih (lr.size + hi.size) (by rw [← hn]; simp only [Tr.size]; omega) rfl b2 hh (by simp only [Tr.size] at hn; omega)
        obtain ⟨j1, j2, j3, j4⟩ := joinT_is (lo := lr) (hi := hi) x b2 hh
        have hz := joinT_size (lo := lr) (hi := hi) x b2 hh
        simp only [Tr.deep_node] at c1
        exact join_lo w S nf ll lr hi lx al ah x tl th fx hi0 (by rw [hn]; exact hs) (by simp only [Tr.size] at hn; omega) (by simp only [Tr.deep_node]; exact c1) (by omega) (by omega)
    · rw [if_neg c1]
      by_cases c3 : lo.deep + 1 < hi.deep
      · rw [if_pos c3]
        cases hi with
        | nil => simp [Tr.deep] at c3
        | node nf hl' hx hr =>
          obtain ⟨b1, b2, b3, b4⟩ := (Tr.bal_node _ _ _ _).1 hh
          have hi0 := ih (lo.size + hl'.size) (by rw [← hn]; simp only [Tr.size]; omega) rfl hl b1 (by simp only [Tr.size] at hn; omega)
          obtain ⟨j1, j2, j3, j4⟩ := joinT_is (lo := lo) (hi := hl') x hl b1
          have hz := joinT_size (lo := lo) (hi := hl') x hl b1
          simp only [Tr.deep_node] at c3
          exact join_hi w S nf hl' hr lo hx al ah x tl th fx hi0 (by rw [Nat.add_comm, hn]; exact hs) (by simp only [Tr.size] at hn; omega) (by simp only [Tr.deep_node]; exact c3) (by omega) (by omega)
      · rw [if_neg c3]
        exact join_even w S lo hi al ah x tl th fx (by rw [hn]; exact hs) (by omega) (by omega)
end Go.Proofs.Ytfcfffilfmbpeaa
