/- Layer 7: level, where the upper tree is too deep. -/
import Derived.Test.YtfcfffilfmbpeaaCowT
set_option linter.all false
namespace Go.Proofs.Ytfcfffilfmbpeaa
open Go.RowKit

section
variable (w : World) (S : Nat → Prop)
set_option maxRecDepth 100000 in
set_option maxHeartbeats 4000000 in
theorem level_hi2 (nf : Bool) (ou lo : Tr) (kx : Ext) (ng : Bool) (ml mr : Tr) (mx : Ext) (al ah : Option Addr) (x : Ext) (hl : Tree w S al lo) (hh : Tree w S ah (Tr.node nf (Tr.node ng ml mx mr) kx ou)) (fx : Fit x)
    (hs : (Tr.node nf (Tr.node ng ml mx mr) kx ou).size + lo.size ≤ 1000000) (hd : (Tr.node nf (Tr.node ng ml mx mr) kx ou).deep = lo.deep + 2) (hm : ou.deep < (Tr.node ng ml mx mr).deep) :
    Calls Try.prog 90 #[.agg #[.pointer al], .agg #[.int .i64 x.off, .int .i64 x.len, .int .i64 x.phys, .int .i64 x.birth], .agg #[.pointer ah]] w fun e w' => ∃ a, e = .returned (.agg #[.pointer a]) ∧ Tree w' S a (.node true (.node true lo x ml) mx (.node true mr kx ou)) ∧ Below w.heap.size w w' := by
  have hdl := Tr.deep_size (Tr.node nf (Tr.node ng ml mx mr) kx ou)
  obtain ⟨t, ht⟩ : ∃ t, t = Tr.node nf (Tr.node ng ml mx mr) kx ou := ⟨_, rfl⟩
  obtain ⟨m, hmm⟩ : ∃ m, m = (Tr.node ng ml mx mr) := ⟨_, rfl⟩
  have hwd : IntKind.i64.wrap ((lo.deep : Int) - (t.deep : Int)) = -2 := by rw [ht, IntKind.wrap_i64]; omega
  have hbig := hh
  obtain ⟨bl, am, aou, rfl, hbl, fkx, -, hmid, hou⟩ := hh
  have hmid0 := hmid
  obtain ⟨bm, aml, amr, rfl, hbm, fmx, -, hml, hmr⟩ := hmid
  have hgt : (ou.deep : Int) < (m.deep : Int) := by rw [hmm]; omega
  have hsz : ou.size + ml.size + mr.size + lo.size ≤ 999998 := by simp only [Tr.size] at hs; omega
  rw [← ht] at hbig
  rw [← hmm] at hmid0
  clear hs hd hm hdl ht hmm
  obtain ⟨w1, hw1d, b0, b1, b2, b3, hB1⟩ := boxes3 w al (some ⟨bl, 0, none⟩) x
  have hg1 := hbig.below hB1
  have ho1 := hl.below hB1
  go_enter Try.func90, Try.ntmps90
  go_wp2_with fail
  rw [← hw1d]
  clear hw1d
  generalize hg : w.heap.size = g at *
  refine wp_region_noPanic ?_
  refine wp_region_held_drew (S := (fun w' => w'.cell? ⟨g, 0, none⟩ = some (.pointer al) ∧ w'.cell? ⟨g + 1 + 1, 0, none⟩ = some (.pointer (some ⟨bl, 0, none⟩)))) (by kernel_rfl) ⟨b0.cell rfl, b2.cell rfl⟩ (fun _ => ?_)
  refine wpAnyH_take (i := 0) (oi := _) (v := ?_) rfl (by kernel_rfl) (by kernel_rfl) (by kernel_rfl) (fun _ _ _ h => h) (Or.inl ⟨by kernel_rfl, ?_⟩) ⟨b0.cell rfl, b2.cell rfl⟩ ?_
  rotate_left
  · (rintro w ⟨s0, s1⟩; go_simp; (first | done | rfl))
  try simp only [Act.put, List.getElem_toArray, List.getElem_cons_zero, List.getElem_cons_succ, List.setIfInBounds_toArray, List.set_cons_zero, List.set_cons_succ]
  refine wpAnyH_take (i := 2) (oi := _) (v := ?_) rfl (by kernel_rfl) (by kernel_rfl) (by kernel_rfl) (fun _ _ _ h => h) (Or.inl ⟨by kernel_rfl, ?_⟩) ⟨b0.cell rfl, b2.cell rfl⟩ ?_
  rotate_left
  · (rintro w ⟨s0, s1⟩; go_simp; (first | done | rfl))
  try simp only [Act.put, List.getElem_toArray, List.getElem_cons_zero, List.getElem_cons_succ, List.setIfInBounds_toArray, List.set_cons_zero, List.set_cons_succ]
  refine wpAnyH_ready (rs := [1]) (by kernel_rfl) (by simp) (AllReadyH.cons (o := _) rfl (fun K hK => ?_) AllReadyH.nil)
  rw [if_pos (by kernel_rfl)]
  refine wp_fn 89 _ _ rfl _ rfl enters_deep (deep_ _ S lo al ho1.drew) ?_
  rintro e w2 ⟨rfl, hb2⟩
  have hB2 : Below w1.heap.size w1 w2 := below_undrew hb2
  refine ⟨_, rfl, ?_⟩
  refine hK.out _ _ ⟨(b0.keep hB2).cell rfl, (b2.keep hB2).cell rfl⟩ (fun _ => ?_)
  clear hK K
  try simp only [Act.put, List.getElem_toArray, List.getElem_cons_zero, List.getElem_cons_succ, List.setIfInBounds_toArray, List.set_cons_zero, List.set_cons_succ]
  refine wpAnyH_ready (rs := [3]) (by kernel_rfl) (by simp) (AllReadyH.cons (o := _) rfl (fun K hK => ?_) AllReadyH.nil)
  rw [if_pos (by kernel_rfl)]
  refine wp_fn 89 _ _ rfl _ rfl enters_deep (deep_ _ S t (some ⟨bl, 0, none⟩) (hg1.below hB2)) ?_
  rintro e w3 ⟨rfl, hb3⟩
  have hB3 : Below w1.heap.size w1 w3 := below_step hB2 hb3 (Nat.le_refl _)
  refine ⟨_, rfl, ?_⟩
  refine hK.out _ _ ⟨(b0.keep hB3).cell rfl, (b2.keep hB3).cell rfl⟩ (fun _ => ?_)
  clear hK K
  try simp only [Act.put, List.getElem_toArray, List.getElem_cons_zero, List.getElem_cons_succ, List.setIfInBounds_toArray, List.set_cons_zero, List.set_cons_succ]
  refine wpAnyH_take (i := 4) (oi := _) (v := ?_) rfl (by kernel_rfl) (by kernel_rfl) (by kernel_rfl) (fun _ _ _ h => h) (Or.inl ⟨by kernel_rfl, ?_⟩) ⟨(b0.keep hB3).cell rfl, (b2.keep hB3).cell rfl⟩ ?_
  rotate_left
  · (rintro w ⟨s0, s1⟩; go_simp; (first | done | rfl))
  try simp only [Act.put, List.getElem_toArray, List.getElem_cons_zero, List.getElem_cons_succ, List.setIfInBounds_toArray, List.set_cons_zero, List.set_cons_succ]
  refine wpAnyH_done (by kernel_rfl) ?_ _
  refine NoPanic.normal ?_
  replace b0 := b0.keep hB3
  replace b1 := b1.keep hB3
  replace b2 := b2.keep hB3
  replace b3 := b3.keep hB3
  replace hB3 := hB1.trans (hB3.mono (by have := hB1.size; omega))
  clear hb2 hb3 hB2 hg1 ho1
  have n3 := hbl.below hB3 (by have := hbl.lt; omega)
  have e0 := b2.cell (j := 0) (u := .pointer (some ⟨bl, 0, none⟩)) rfl
  have e1 := n3.cell (j := 4) (u := .pointer (some ⟨bm, 0, none⟩)) rfl
  go_wp2_with fail
  obtain ⟨w4, hw4⟩ : ∃ w4, w4 = w3.alloc (.cells #[.pointer (some ⟨bm, 0, none⟩)] 103) := ⟨_, rfl⟩
  rw [← hw4]
  have hB34 : Below w3.heap.size w3 w4 := by rw [hw4]; exact (Below.refl _ _).alloc (Nat.le_refl _) _
  have m0 : Blk w4 w3.heap.size 103 #[.pointer (some ⟨bm, 0, none⟩)] := by rw [hw4]; exact Blk.new _ _ _ rfl
  have hlt3 := b3.lt
  replace b0 := b0.keep hB34
  replace b1 := b1.keep hB34
  replace b2 := b2.keep hB34
  replace b3 := b3.keep hB34
  have hB4 : Below g w w4 := hB3.trans (hB34.mono (by omega))
  have n4 := hbl.below hB4 (by have := hbl.lt; omega)
  have k4 := hbm.below hB4 (by have := hbm.lt; omega)
  generalize w3.heap.size = q at *
  clear hw4 hB34 e0 e1 n3 hB3 hB1
  subst hg
  have hlbl := hbl.lt
  have hlbm := hbm.lt
  have tm := hmid0.below hB4
  have tou := hou.below hB4
  have tot := hl.below hB4
  have tml := hml.below hB4
  have tmr := hmr.below hB4
  refine wp_region_noPanic ?_
  refine wp_region_held_drew (S := (fun w' => w'.cell? ⟨w.heap.size + 1 + 1, 0, none⟩ = some (.pointer (some ⟨bl, 0, none⟩)) ∧ w'.cell? ⟨q, 0, none⟩ = some (.pointer (some ⟨bm, 0, none⟩)) ∧ w'.cell? ⟨bl, 5, none⟩ = some (.pointer aou))) (by kernel_rfl) ⟨b2.cell rfl, m0.cell rfl, n4.cell rfl⟩ (fun _ => ?_)
  refine wpAnyH_take (i := 0) (oi := _) (v := ?_) rfl (by kernel_rfl) (by kernel_rfl) (by kernel_rfl) (fun _ _ _ h => h) (Or.inl ⟨by kernel_rfl, ?_⟩) ⟨b2.cell rfl, m0.cell rfl, n4.cell rfl⟩ ?_
  rotate_left
  · (rintro w ⟨s0, s1, s2⟩; go_simp; (first | done | rfl))
  try simp only [Act.put, List.getElem_toArray, List.getElem_cons_zero, List.getElem_cons_succ, List.setIfInBounds_toArray, List.set_cons_zero, List.set_cons_succ]
  refine wpAnyH_take (i := 2) (oi := _) (v := ?_) rfl (by kernel_rfl) (by kernel_rfl) (by kernel_rfl) (fun _ _ _ h => h) (Or.inl ⟨by kernel_rfl, ?_⟩) ⟨b2.cell rfl, m0.cell rfl, n4.cell rfl⟩ ?_
  rotate_left
  · (rintro w ⟨s0, s1, s2⟩; go_simp; (first | done | rfl))
  try simp only [Act.put, List.getElem_toArray, List.getElem_cons_zero, List.getElem_cons_succ, List.setIfInBounds_toArray, List.set_cons_zero, List.set_cons_succ]
  refine wpAnyH_take (i := 3) (oi := _) (v := ?_) rfl (by kernel_rfl) (by kernel_rfl) (by kernel_rfl) (fun _ _ _ h => h) (Or.inl ⟨by kernel_rfl, ?_⟩) ⟨b2.cell rfl, m0.cell rfl, n4.cell rfl⟩ ?_
  rotate_left
  · (rintro w ⟨s0, s1, s2⟩; go_simp; (first | done | rfl))
  try simp only [Act.put, List.getElem_toArray, List.getElem_cons_zero, List.getElem_cons_succ, List.setIfInBounds_toArray, List.set_cons_zero, List.set_cons_succ]
  refine wpAnyH_take (i := 4) (oi := _) (v := ?_) rfl (by kernel_rfl) (by kernel_rfl) (by kernel_rfl) (fun _ _ _ h => h) (Or.inl ⟨by kernel_rfl, ?_⟩) ⟨b2.cell rfl, m0.cell rfl, n4.cell rfl⟩ ?_
  rotate_left
  · (rintro w ⟨s0, s1, s2⟩; go_simp; (first | done | rfl))
  try simp only [Act.put, List.getElem_toArray, List.getElem_cons_zero, List.getElem_cons_succ, List.setIfInBounds_toArray, List.set_cons_zero, List.set_cons_succ]
  refine wpAnyH_take (i := 5) (oi := _) (v := ?_) rfl (by kernel_rfl) (by kernel_rfl) (by kernel_rfl) (fun _ _ _ h => h) (Or.inl ⟨by kernel_rfl, ?_⟩) ⟨b2.cell rfl, m0.cell rfl, n4.cell rfl⟩ ?_
  rotate_left
  · (rintro w ⟨s0, s1, s2⟩; go_simp; (first | done | rfl))
  try simp only [Act.put, List.getElem_toArray, List.getElem_cons_zero, List.getElem_cons_succ, List.setIfInBounds_toArray, List.set_cons_zero, List.set_cons_succ]
  refine wpAnyH_take (i := 6) (oi := _) (v := ?_) rfl (by kernel_rfl) (by kernel_rfl) (by kernel_rfl) (fun _ _ _ h => h) (Or.inl ⟨by kernel_rfl, ?_⟩) ⟨b2.cell rfl, m0.cell rfl, n4.cell rfl⟩ ?_
  rotate_left
  · (rintro w ⟨s0, s1, s2⟩; go_simp; (first | done | rfl))
  try simp only [Act.put, List.getElem_toArray, List.getElem_cons_zero, List.getElem_cons_succ, List.setIfInBounds_toArray, List.set_cons_zero, List.set_cons_succ]
  refine wpAnyH_ready (rs := [1]) (by kernel_rfl) (by simp) (AllReadyH.cons (o := _) rfl (fun K hK => ?_) AllReadyH.nil)
  rw [if_pos (by kernel_rfl)]
  refine wp_fn 89 _ _ rfl _ rfl enters_deep (deep_ _ S m (some ⟨bm, 0, none⟩) tm.drew) ?_
  rintro e w5 ⟨rfl, hb5⟩
  have hB5 : Below w4.heap.size w4 w5 := below_undrew hb5
  refine ⟨_, rfl, ?_⟩
  refine hK.out _ _ ⟨(b2.keep hB5).cell rfl, (m0.keep hB5).cell rfl, (n4.keep hB5).cell rfl⟩ (fun _ => ?_)
  clear hK K
  try simp only [Act.put, List.getElem_toArray, List.getElem_cons_zero, List.getElem_cons_succ, List.setIfInBounds_toArray, List.set_cons_zero, List.set_cons_succ]
  refine wpAnyH_ready (rs := [7]) (by kernel_rfl) (by simp) (AllReadyH.cons (o := _) rfl (fun K hK => ?_) AllReadyH.nil)
  rw [if_pos (by kernel_rfl)]
  refine wp_fn 89 _ _ rfl _ rfl enters_deep (deep_ _ S ou aou (tou.below hB5)) ?_
  rintro e w6 ⟨rfl, hb6⟩
  have hB6 : Below w4.heap.size w4 w6 := below_step hB5 hb6 (Nat.le_refl _)
  refine ⟨_, rfl, ?_⟩
  refine hK.out _ _ ⟨(b2.keep hB6).cell rfl, (m0.keep hB6).cell rfl, (n4.keep hB6).cell rfl⟩ (fun _ => ?_)
  clear hK K
  try simp only [Act.put, List.getElem_toArray, List.getElem_cons_zero, List.getElem_cons_succ, List.setIfInBounds_toArray, List.set_cons_zero, List.set_cons_succ]
  refine wpAnyH_take (i := 8) (oi := _) (v := ?_) rfl (by kernel_rfl) (by kernel_rfl) (by kernel_rfl) (fun _ _ _ h => h) (Or.inl ⟨by kernel_rfl, ?_⟩) ⟨(b2.keep hB6).cell rfl, (m0.keep hB6).cell rfl, (n4.keep hB6).cell rfl⟩ ?_
  rotate_left
  · (rintro w ⟨s0, s1, s2⟩; go_simp; (first | done | rfl))
  try simp only [Act.put, List.getElem_toArray, List.getElem_cons_zero, List.getElem_cons_succ, List.setIfInBounds_toArray, List.set_cons_zero, List.set_cons_succ]
  refine wpAnyH_done (by kernel_rfl) ?_ _
  refine NoPanic.normal ?_
  replace b0 := b0.keep hB6
  replace b1 := b1.keep hB6
  replace b2 := b2.keep hB6
  replace b3 := b3.keep hB6
  replace m0 := m0.keep hB6
  replace n4 := n4.keep hB6
  replace k4 := k4.keep hB6
  replace tm := tm.below hB6
  replace tou := tou.below hB6
  replace tot := tot.below hB6
  replace tml := tml.below hB6
  replace tmr := tmr.below hB6
  replace hB4 := hB4.trans (hB6.mono hB4.size)
  clear hB5 hB6 hb5 hb6
  go_wp2_with fail
  refine wp_region_noPanic ?_
  refine wp_region_held_drew (S := (fun w' => w'.cell? ⟨w.heap.size, 0, none⟩ = some (.pointer al) ∧ w'.cell? ⟨w.heap.size + 1, 0, none⟩ = some (.int .i64 x.off) ∧ w'.cell? ⟨w.heap.size + 1, 1, none⟩ = some (.int .i64 x.len) ∧ w'.cell? ⟨w.heap.size + 1, 2, none⟩ = some (.int .i64 x.phys) ∧ w'.cell? ⟨w.heap.size + 1, 3, none⟩ = some (.int .i64 x.birth) ∧ w'.cell? ⟨w.heap.size + 1 + 1, 0, none⟩ = some (.pointer (some ⟨bl, 0, none⟩)) ∧ w'.cell? ⟨q, 0, none⟩ = some (.pointer (some ⟨bm, 0, none⟩)) ∧ w'.cell? ⟨bl, 0, none⟩ = some (.int .i64 kx.off) ∧ w'.cell? ⟨bl, 1, none⟩ = some (.int .i64 kx.len) ∧ w'.cell? ⟨bl, 2, none⟩ = some (.int .i64 kx.phys) ∧ w'.cell? ⟨bl, 3, none⟩ = some (.int .i64 kx.birth) ∧ w'.cell? ⟨bl, 5, none⟩ = some (.pointer aou) ∧ w'.cell? ⟨bm, 0, none⟩ = some (.int .i64 mx.off) ∧ w'.cell? ⟨bm, 1, none⟩ = some (.int .i64 mx.len) ∧ w'.cell? ⟨bm, 2, none⟩ = some (.int .i64 mx.phys) ∧ w'.cell? ⟨bm, 3, none⟩ = some (.int .i64 mx.birth) ∧ w'.cell? ⟨bm, 4, none⟩ = some (.pointer aml) ∧ w'.cell? ⟨bm, 5, none⟩ = some (.pointer amr))) (by kernel_rfl) ⟨b0.cell rfl, b1.cell rfl, b1.cell rfl, b1.cell rfl, b1.cell rfl, b2.cell rfl, m0.cell rfl, n4.cell rfl, n4.cell rfl, n4.cell rfl, n4.cell rfl, n4.cell rfl, k4.cell rfl, k4.cell rfl, k4.cell rfl, k4.cell rfl, k4.cell rfl, k4.cell rfl⟩ (fun _ => ?_)
  refine wpAnyH_take (i := 0) (oi := _) (v := ?_) rfl (by kernel_rfl) (by kernel_rfl) (by kernel_rfl) (fun _ _ _ h => h) (Or.inl ⟨by kernel_rfl, ?_⟩) ⟨b0.cell rfl, b1.cell rfl, b1.cell rfl, b1.cell rfl, b1.cell rfl, b2.cell rfl, m0.cell rfl, n4.cell rfl, n4.cell rfl, n4.cell rfl, n4.cell rfl, n4.cell rfl, k4.cell rfl, k4.cell rfl, k4.cell rfl, k4.cell rfl, k4.cell rfl, k4.cell rfl⟩ ?_
  rotate_left
  · (rintro w ⟨s0, s1, s2, s3, s4, s5, s6, s7, s8, s9, s10, s11, s12, s13, s14, s15, s16, s17⟩; go_simp; (first | done | rfl))
  try simp only [Act.put, List.getElem_toArray, List.getElem_cons_zero, List.getElem_cons_succ, List.setIfInBounds_toArray, List.set_cons_zero, List.set_cons_succ]
  refine wpAnyH_take (i := 1) (oi := _) (v := ?_) rfl (by kernel_rfl) (by kernel_rfl) (by kernel_rfl) (fun _ _ _ h => h) (Or.inl ⟨by kernel_rfl, ?_⟩) ⟨b0.cell rfl, b1.cell rfl, b1.cell rfl, b1.cell rfl, b1.cell rfl, b2.cell rfl, m0.cell rfl, n4.cell rfl, n4.cell rfl, n4.cell rfl, n4.cell rfl, n4.cell rfl, k4.cell rfl, k4.cell rfl, k4.cell rfl, k4.cell rfl, k4.cell rfl, k4.cell rfl⟩ ?_
  rotate_left
  · (rintro w ⟨s0, s1, s2, s3, s4, s5, s6, s7, s8, s9, s10, s11, s12, s13, s14, s15, s16, s17⟩; go_simp; (first | done | rfl))
  try simp only [Act.put, List.getElem_toArray, List.getElem_cons_zero, List.getElem_cons_succ, List.setIfInBounds_toArray, List.set_cons_zero, List.set_cons_succ]
  refine wpAnyH_take (i := 2) (oi := _) (v := ?_) rfl (by kernel_rfl) (by kernel_rfl) (by kernel_rfl) (fun _ _ _ h => h) (Or.inl ⟨by kernel_rfl, ?_⟩) ⟨b0.cell rfl, b1.cell rfl, b1.cell rfl, b1.cell rfl, b1.cell rfl, b2.cell rfl, m0.cell rfl, n4.cell rfl, n4.cell rfl, n4.cell rfl, n4.cell rfl, n4.cell rfl, k4.cell rfl, k4.cell rfl, k4.cell rfl, k4.cell rfl, k4.cell rfl, k4.cell rfl⟩ ?_
  rotate_left
  · (rintro w ⟨s0, s1, s2, s3, s4, s5, s6, s7, s8, s9, s10, s11, s12, s13, s14, s15, s16, s17⟩; go_simp; (first | done | rfl))
  try simp only [Act.put, List.getElem_toArray, List.getElem_cons_zero, List.getElem_cons_succ, List.setIfInBounds_toArray, List.set_cons_zero, List.set_cons_succ]
  refine wpAnyH_take (i := 3) (oi := _) (v := ?_) rfl (by kernel_rfl) (by kernel_rfl) (by kernel_rfl) (fun _ _ _ h => h) (Or.inl ⟨by kernel_rfl, ?_⟩) ⟨b0.cell rfl, b1.cell rfl, b1.cell rfl, b1.cell rfl, b1.cell rfl, b2.cell rfl, m0.cell rfl, n4.cell rfl, n4.cell rfl, n4.cell rfl, n4.cell rfl, n4.cell rfl, k4.cell rfl, k4.cell rfl, k4.cell rfl, k4.cell rfl, k4.cell rfl, k4.cell rfl⟩ ?_
  rotate_left
  · (rintro w ⟨s0, s1, s2, s3, s4, s5, s6, s7, s8, s9, s10, s11, s12, s13, s14, s15, s16, s17⟩; go_simp; (first | done | rfl))
  try simp only [Act.put, List.getElem_toArray, List.getElem_cons_zero, List.getElem_cons_succ, List.setIfInBounds_toArray, List.set_cons_zero, List.set_cons_succ]
  refine wpAnyH_take (i := 4) (oi := _) (v := ?_) rfl (by kernel_rfl) (by kernel_rfl) (by kernel_rfl) (fun _ _ _ h => h) (Or.inl ⟨by kernel_rfl, ?_⟩) ⟨b0.cell rfl, b1.cell rfl, b1.cell rfl, b1.cell rfl, b1.cell rfl, b2.cell rfl, m0.cell rfl, n4.cell rfl, n4.cell rfl, n4.cell rfl, n4.cell rfl, n4.cell rfl, k4.cell rfl, k4.cell rfl, k4.cell rfl, k4.cell rfl, k4.cell rfl, k4.cell rfl⟩ ?_
  rotate_left
  · (rintro w ⟨s0, s1, s2, s3, s4, s5, s6, s7, s8, s9, s10, s11, s12, s13, s14, s15, s16, s17⟩; go_simp; (first | done | rfl))
  try simp only [Act.put, List.getElem_toArray, List.getElem_cons_zero, List.getElem_cons_succ, List.setIfInBounds_toArray, List.set_cons_zero, List.set_cons_succ]
  refine wpAnyH_take (i := 5) (oi := _) (v := ?_) rfl (by kernel_rfl) (by kernel_rfl) (by kernel_rfl) (fun _ _ _ h => h) (Or.inl ⟨by kernel_rfl, ?_⟩) ⟨b0.cell rfl, b1.cell rfl, b1.cell rfl, b1.cell rfl, b1.cell rfl, b2.cell rfl, m0.cell rfl, n4.cell rfl, n4.cell rfl, n4.cell rfl, n4.cell rfl, n4.cell rfl, k4.cell rfl, k4.cell rfl, k4.cell rfl, k4.cell rfl, k4.cell rfl, k4.cell rfl⟩ ?_
  rotate_left
  · (rintro w ⟨s0, s1, s2, s3, s4, s5, s6, s7, s8, s9, s10, s11, s12, s13, s14, s15, s16, s17⟩; go_simp; (first | done | rfl))
  try simp only [Act.put, List.getElem_toArray, List.getElem_cons_zero, List.getElem_cons_succ, List.setIfInBounds_toArray, List.set_cons_zero, List.set_cons_succ]
  refine wpAnyH_take (i := 6) (oi := _) (v := ?_) rfl (by kernel_rfl) (by kernel_rfl) (by kernel_rfl) (fun _ _ _ h => h) (Or.inl ⟨by kernel_rfl, ?_⟩) ⟨b0.cell rfl, b1.cell rfl, b1.cell rfl, b1.cell rfl, b1.cell rfl, b2.cell rfl, m0.cell rfl, n4.cell rfl, n4.cell rfl, n4.cell rfl, n4.cell rfl, n4.cell rfl, k4.cell rfl, k4.cell rfl, k4.cell rfl, k4.cell rfl, k4.cell rfl, k4.cell rfl⟩ ?_
  rotate_left
  · (rintro w ⟨s0, s1, s2, s3, s4, s5, s6, s7, s8, s9, s10, s11, s12, s13, s14, s15, s16, s17⟩; go_simp; (first | done | rfl))
  try simp only [Act.put, List.getElem_toArray, List.getElem_cons_zero, List.getElem_cons_succ, List.setIfInBounds_toArray, List.set_cons_zero, List.set_cons_succ]
  refine wpAnyH_take (i := 8) (oi := _) (v := ?_) rfl (by kernel_rfl) (by kernel_rfl) (by kernel_rfl) (fun _ _ _ h => h) (Or.inl ⟨by kernel_rfl, ?_⟩) ⟨b0.cell rfl, b1.cell rfl, b1.cell rfl, b1.cell rfl, b1.cell rfl, b2.cell rfl, m0.cell rfl, n4.cell rfl, n4.cell rfl, n4.cell rfl, n4.cell rfl, n4.cell rfl, k4.cell rfl, k4.cell rfl, k4.cell rfl, k4.cell rfl, k4.cell rfl, k4.cell rfl⟩ ?_
  rotate_left
  · (rintro w ⟨s0, s1, s2, s3, s4, s5, s6, s7, s8, s9, s10, s11, s12, s13, s14, s15, s16, s17⟩; go_simp; (first | done | rfl))
  try simp only [Act.put, List.getElem_toArray, List.getElem_cons_zero, List.getElem_cons_succ, List.setIfInBounds_toArray, List.set_cons_zero, List.set_cons_succ]
  refine wpAnyH_take (i := 9) (oi := _) (v := ?_) rfl (by kernel_rfl) (by kernel_rfl) (by kernel_rfl) (fun _ _ _ h => h) (Or.inl ⟨by kernel_rfl, ?_⟩) ⟨b0.cell rfl, b1.cell rfl, b1.cell rfl, b1.cell rfl, b1.cell rfl, b2.cell rfl, m0.cell rfl, n4.cell rfl, n4.cell rfl, n4.cell rfl, n4.cell rfl, n4.cell rfl, k4.cell rfl, k4.cell rfl, k4.cell rfl, k4.cell rfl, k4.cell rfl, k4.cell rfl⟩ ?_
  rotate_left
  · (rintro w ⟨s0, s1, s2, s3, s4, s5, s6, s7, s8, s9, s10, s11, s12, s13, s14, s15, s16, s17⟩; go_simp; (first | done | rfl))
  try simp only [Act.put, List.getElem_toArray, List.getElem_cons_zero, List.getElem_cons_succ, List.setIfInBounds_toArray, List.set_cons_zero, List.set_cons_succ]
  refine wpAnyH_take (i := 10) (oi := _) (v := ?_) rfl (by kernel_rfl) (by kernel_rfl) (by kernel_rfl) (fun _ _ _ h => h) (Or.inl ⟨by kernel_rfl, ?_⟩) ⟨b0.cell rfl, b1.cell rfl, b1.cell rfl, b1.cell rfl, b1.cell rfl, b2.cell rfl, m0.cell rfl, n4.cell rfl, n4.cell rfl, n4.cell rfl, n4.cell rfl, n4.cell rfl, k4.cell rfl, k4.cell rfl, k4.cell rfl, k4.cell rfl, k4.cell rfl, k4.cell rfl⟩ ?_
  rotate_left
  · (rintro w ⟨s0, s1, s2, s3, s4, s5, s6, s7, s8, s9, s10, s11, s12, s13, s14, s15, s16, s17⟩; go_simp; (first | done | rfl))
  try simp only [Act.put, List.getElem_toArray, List.getElem_cons_zero, List.getElem_cons_succ, List.setIfInBounds_toArray, List.set_cons_zero, List.set_cons_succ]
  refine wpAnyH_take (i := 11) (oi := _) (v := ?_) rfl (by kernel_rfl) (by kernel_rfl) (by kernel_rfl) (fun _ _ _ h => h) (Or.inl ⟨by kernel_rfl, ?_⟩) ⟨b0.cell rfl, b1.cell rfl, b1.cell rfl, b1.cell rfl, b1.cell rfl, b2.cell rfl, m0.cell rfl, n4.cell rfl, n4.cell rfl, n4.cell rfl, n4.cell rfl, n4.cell rfl, k4.cell rfl, k4.cell rfl, k4.cell rfl, k4.cell rfl, k4.cell rfl, k4.cell rfl⟩ ?_
  rotate_left
  · (rintro w ⟨s0, s1, s2, s3, s4, s5, s6, s7, s8, s9, s10, s11, s12, s13, s14, s15, s16, s17⟩; go_simp; (first | done | rfl))
  try simp only [Act.put, List.getElem_toArray, List.getElem_cons_zero, List.getElem_cons_succ, List.setIfInBounds_toArray, List.set_cons_zero, List.set_cons_succ]
  refine wpAnyH_take (i := 12) (oi := _) (v := ?_) rfl (by kernel_rfl) (by kernel_rfl) (by kernel_rfl) (fun _ _ _ h => h) (Or.inl ⟨by kernel_rfl, ?_⟩) ⟨b0.cell rfl, b1.cell rfl, b1.cell rfl, b1.cell rfl, b1.cell rfl, b2.cell rfl, m0.cell rfl, n4.cell rfl, n4.cell rfl, n4.cell rfl, n4.cell rfl, n4.cell rfl, k4.cell rfl, k4.cell rfl, k4.cell rfl, k4.cell rfl, k4.cell rfl, k4.cell rfl⟩ ?_
  rotate_left
  · (rintro w ⟨s0, s1, s2, s3, s4, s5, s6, s7, s8, s9, s10, s11, s12, s13, s14, s15, s16, s17⟩; go_simp; (first | done | rfl))
  try simp only [Act.put, List.getElem_toArray, List.getElem_cons_zero, List.getElem_cons_succ, List.setIfInBounds_toArray, List.set_cons_zero, List.set_cons_succ]
  refine wpAnyH_take (i := 13) (oi := _) (v := ?_) rfl (by kernel_rfl) (by kernel_rfl) (by kernel_rfl) (fun _ _ _ h => h) (Or.inl ⟨by kernel_rfl, ?_⟩) ⟨b0.cell rfl, b1.cell rfl, b1.cell rfl, b1.cell rfl, b1.cell rfl, b2.cell rfl, m0.cell rfl, n4.cell rfl, n4.cell rfl, n4.cell rfl, n4.cell rfl, n4.cell rfl, k4.cell rfl, k4.cell rfl, k4.cell rfl, k4.cell rfl, k4.cell rfl, k4.cell rfl⟩ ?_
  rotate_left
  · (rintro w ⟨s0, s1, s2, s3, s4, s5, s6, s7, s8, s9, s10, s11, s12, s13, s14, s15, s16, s17⟩; go_simp; (first | done | rfl))
  try simp only [Act.put, List.getElem_toArray, List.getElem_cons_zero, List.getElem_cons_succ, List.setIfInBounds_toArray, List.set_cons_zero, List.set_cons_succ]
  refine wpAnyH_take (i := 14) (oi := _) (v := ?_) rfl (by kernel_rfl) (by kernel_rfl) (by kernel_rfl) (fun _ _ _ h => h) (Or.inl ⟨by kernel_rfl, ?_⟩) ⟨b0.cell rfl, b1.cell rfl, b1.cell rfl, b1.cell rfl, b1.cell rfl, b2.cell rfl, m0.cell rfl, n4.cell rfl, n4.cell rfl, n4.cell rfl, n4.cell rfl, n4.cell rfl, k4.cell rfl, k4.cell rfl, k4.cell rfl, k4.cell rfl, k4.cell rfl, k4.cell rfl⟩ ?_
  rotate_left
  · (rintro w ⟨s0, s1, s2, s3, s4, s5, s6, s7, s8, s9, s10, s11, s12, s13, s14, s15, s16, s17⟩; go_simp; (first | done | rfl))
  try simp only [Act.put, List.getElem_toArray, List.getElem_cons_zero, List.getElem_cons_succ, List.setIfInBounds_toArray, List.set_cons_zero, List.set_cons_succ]
  refine wpAnyH_take (i := 15) (oi := _) (v := ?_) rfl (by kernel_rfl) (by kernel_rfl) (by kernel_rfl) (fun _ _ _ h => h) (Or.inl ⟨by kernel_rfl, ?_⟩) ⟨b0.cell rfl, b1.cell rfl, b1.cell rfl, b1.cell rfl, b1.cell rfl, b2.cell rfl, m0.cell rfl, n4.cell rfl, n4.cell rfl, n4.cell rfl, n4.cell rfl, n4.cell rfl, k4.cell rfl, k4.cell rfl, k4.cell rfl, k4.cell rfl, k4.cell rfl, k4.cell rfl⟩ ?_
  rotate_left
  · (rintro w ⟨s0, s1, s2, s3, s4, s5, s6, s7, s8, s9, s10, s11, s12, s13, s14, s15, s16, s17⟩; go_simp; (first | done | rfl))
  try simp only [Act.put, List.getElem_toArray, List.getElem_cons_zero, List.getElem_cons_succ, List.setIfInBounds_toArray, List.set_cons_zero, List.set_cons_succ]
  refine wpAnyH_take (i := 16) (oi := _) (v := ?_) rfl (by kernel_rfl) (by kernel_rfl) (by kernel_rfl) (fun _ _ _ h => h) (Or.inl ⟨by kernel_rfl, ?_⟩) ⟨b0.cell rfl, b1.cell rfl, b1.cell rfl, b1.cell rfl, b1.cell rfl, b2.cell rfl, m0.cell rfl, n4.cell rfl, n4.cell rfl, n4.cell rfl, n4.cell rfl, n4.cell rfl, k4.cell rfl, k4.cell rfl, k4.cell rfl, k4.cell rfl, k4.cell rfl, k4.cell rfl⟩ ?_
  rotate_left
  · (rintro w ⟨s0, s1, s2, s3, s4, s5, s6, s7, s8, s9, s10, s11, s12, s13, s14, s15, s16, s17⟩; go_simp; (first | done | rfl))
  try simp only [Act.put, List.getElem_toArray, List.getElem_cons_zero, List.getElem_cons_succ, List.setIfInBounds_toArray, List.set_cons_zero, List.set_cons_succ]
  refine wpAnyH_take (i := 17) (oi := _) (v := ?_) rfl (by kernel_rfl) (by kernel_rfl) (by kernel_rfl) (fun _ _ _ h => h) (Or.inl ⟨by kernel_rfl, ?_⟩) ⟨b0.cell rfl, b1.cell rfl, b1.cell rfl, b1.cell rfl, b1.cell rfl, b2.cell rfl, m0.cell rfl, n4.cell rfl, n4.cell rfl, n4.cell rfl, n4.cell rfl, n4.cell rfl, k4.cell rfl, k4.cell rfl, k4.cell rfl, k4.cell rfl, k4.cell rfl, k4.cell rfl⟩ ?_
  rotate_left
  · (rintro w ⟨s0, s1, s2, s3, s4, s5, s6, s7, s8, s9, s10, s11, s12, s13, s14, s15, s16, s17⟩; go_simp; (first | done | rfl))
  try simp only [Act.put, List.getElem_toArray, List.getElem_cons_zero, List.getElem_cons_succ, List.setIfInBounds_toArray, List.set_cons_zero, List.set_cons_succ]
  refine wpAnyH_take (i := 18) (oi := _) (v := ?_) rfl (by kernel_rfl) (by kernel_rfl) (by kernel_rfl) (fun _ _ _ h => h) (Or.inl ⟨by kernel_rfl, ?_⟩) ⟨b0.cell rfl, b1.cell rfl, b1.cell rfl, b1.cell rfl, b1.cell rfl, b2.cell rfl, m0.cell rfl, n4.cell rfl, n4.cell rfl, n4.cell rfl, n4.cell rfl, n4.cell rfl, k4.cell rfl, k4.cell rfl, k4.cell rfl, k4.cell rfl, k4.cell rfl, k4.cell rfl⟩ ?_
  rotate_left
  · (rintro w ⟨s0, s1, s2, s3, s4, s5, s6, s7, s8, s9, s10, s11, s12, s13, s14, s15, s16, s17⟩; go_simp; (first | done | rfl))
  try simp only [Act.put, List.getElem_toArray, List.getElem_cons_zero, List.getElem_cons_succ, List.setIfInBounds_toArray, List.set_cons_zero, List.set_cons_succ]
  refine wpAnyH_take (i := 19) (oi := _) (v := ?_) rfl (by kernel_rfl) (by kernel_rfl) (by kernel_rfl) (fun _ _ _ h => h) (Or.inl ⟨by kernel_rfl, ?_⟩) ⟨b0.cell rfl, b1.cell rfl, b1.cell rfl, b1.cell rfl, b1.cell rfl, b2.cell rfl, m0.cell rfl, n4.cell rfl, n4.cell rfl, n4.cell rfl, n4.cell rfl, n4.cell rfl, k4.cell rfl, k4.cell rfl, k4.cell rfl, k4.cell rfl, k4.cell rfl, k4.cell rfl⟩ ?_
  rotate_left
  · (rintro w ⟨s0, s1, s2, s3, s4, s5, s6, s7, s8, s9, s10, s11, s12, s13, s14, s15, s16, s17⟩; go_simp; (first | done | rfl))
  try simp only [Act.put, List.getElem_toArray, List.getElem_cons_zero, List.getElem_cons_succ, List.setIfInBounds_toArray, List.set_cons_zero, List.set_cons_succ]
  refine wpAnyH_take (i := 20) (oi := _) (v := ?_) rfl (by kernel_rfl) (by kernel_rfl) (by kernel_rfl) (fun _ _ _ h => h) (Or.inl ⟨by kernel_rfl, ?_⟩) ⟨b0.cell rfl, b1.cell rfl, b1.cell rfl, b1.cell rfl, b1.cell rfl, b2.cell rfl, m0.cell rfl, n4.cell rfl, n4.cell rfl, n4.cell rfl, n4.cell rfl, n4.cell rfl, k4.cell rfl, k4.cell rfl, k4.cell rfl, k4.cell rfl, k4.cell rfl, k4.cell rfl⟩ ?_
  rotate_left
  · (rintro w ⟨s0, s1, s2, s3, s4, s5, s6, s7, s8, s9, s10, s11, s12, s13, s14, s15, s16, s17⟩; go_simp; (first | done | rfl))
  try simp only [Act.put, List.getElem_toArray, List.getElem_cons_zero, List.getElem_cons_succ, List.setIfInBounds_toArray, List.set_cons_zero, List.set_cons_succ]
  refine wpAnyH_take (i := 21) (oi := _) (v := ?_) rfl (by kernel_rfl) (by kernel_rfl) (by kernel_rfl) (fun _ _ _ h => h) (Or.inl ⟨by kernel_rfl, ?_⟩) ⟨b0.cell rfl, b1.cell rfl, b1.cell rfl, b1.cell rfl, b1.cell rfl, b2.cell rfl, m0.cell rfl, n4.cell rfl, n4.cell rfl, n4.cell rfl, n4.cell rfl, n4.cell rfl, k4.cell rfl, k4.cell rfl, k4.cell rfl, k4.cell rfl, k4.cell rfl, k4.cell rfl⟩ ?_
  rotate_left
  · (rintro w ⟨s0, s1, s2, s3, s4, s5, s6, s7, s8, s9, s10, s11, s12, s13, s14, s15, s16, s17⟩; go_simp; (first | done | rfl))
  try simp only [Act.put, List.getElem_toArray, List.getElem_cons_zero, List.getElem_cons_succ, List.setIfInBounds_toArray, List.set_cons_zero, List.set_cons_succ]
  refine wpAnyH_take (i := 22) (oi := _) (v := ?_) rfl (by kernel_rfl) (by kernel_rfl) (by kernel_rfl) (fun _ _ _ h => h) (Or.inl ⟨by kernel_rfl, ?_⟩) ⟨b0.cell rfl, b1.cell rfl, b1.cell rfl, b1.cell rfl, b1.cell rfl, b2.cell rfl, m0.cell rfl, n4.cell rfl, n4.cell rfl, n4.cell rfl, n4.cell rfl, n4.cell rfl, k4.cell rfl, k4.cell rfl, k4.cell rfl, k4.cell rfl, k4.cell rfl, k4.cell rfl⟩ ?_
  rotate_left
  · (rintro w ⟨s0, s1, s2, s3, s4, s5, s6, s7, s8, s9, s10, s11, s12, s13, s14, s15, s16, s17⟩; go_simp; (first | done | rfl))
  try simp only [Act.put, List.getElem_toArray, List.getElem_cons_zero, List.getElem_cons_succ, List.setIfInBounds_toArray, List.set_cons_zero, List.set_cons_succ]
  refine wpAnyH_take (i := 23) (oi := _) (v := ?_) rfl (by kernel_rfl) (by kernel_rfl) (by kernel_rfl) (fun _ _ _ h => h) (Or.inl ⟨by kernel_rfl, ?_⟩) ⟨b0.cell rfl, b1.cell rfl, b1.cell rfl, b1.cell rfl, b1.cell rfl, b2.cell rfl, m0.cell rfl, n4.cell rfl, n4.cell rfl, n4.cell rfl, n4.cell rfl, n4.cell rfl, k4.cell rfl, k4.cell rfl, k4.cell rfl, k4.cell rfl, k4.cell rfl, k4.cell rfl⟩ ?_
  rotate_left
  · (rintro w ⟨s0, s1, s2, s3, s4, s5, s6, s7, s8, s9, s10, s11, s12, s13, s14, s15, s16, s17⟩; go_simp; (first | done | rfl))
  try simp only [Act.put, List.getElem_toArray, List.getElem_cons_zero, List.getElem_cons_succ, List.setIfInBounds_toArray, List.set_cons_zero, List.set_cons_succ]
  refine wpAnyH_take (i := 24) (oi := _) (v := ?_) rfl (by kernel_rfl) (by kernel_rfl) (by kernel_rfl) (fun _ _ _ h => h) (Or.inl ⟨by kernel_rfl, ?_⟩) ⟨b0.cell rfl, b1.cell rfl, b1.cell rfl, b1.cell rfl, b1.cell rfl, b2.cell rfl, m0.cell rfl, n4.cell rfl, n4.cell rfl, n4.cell rfl, n4.cell rfl, n4.cell rfl, k4.cell rfl, k4.cell rfl, k4.cell rfl, k4.cell rfl, k4.cell rfl, k4.cell rfl⟩ ?_
  rotate_left
  · (rintro w ⟨s0, s1, s2, s3, s4, s5, s6, s7, s8, s9, s10, s11, s12, s13, s14, s15, s16, s17⟩; go_simp; (first | done | rfl))
  try simp only [Act.put, List.getElem_toArray, List.getElem_cons_zero, List.getElem_cons_succ, List.setIfInBounds_toArray, List.set_cons_zero, List.set_cons_succ]
  refine wpAnyH_take (i := 25) (oi := _) (v := ?_) rfl (by kernel_rfl) (by kernel_rfl) (by kernel_rfl) (fun _ _ _ h => h) (Or.inl ⟨by kernel_rfl, ?_⟩) ⟨b0.cell rfl, b1.cell rfl, b1.cell rfl, b1.cell rfl, b1.cell rfl, b2.cell rfl, m0.cell rfl, n4.cell rfl, n4.cell rfl, n4.cell rfl, n4.cell rfl, n4.cell rfl, k4.cell rfl, k4.cell rfl, k4.cell rfl, k4.cell rfl, k4.cell rfl, k4.cell rfl⟩ ?_
  rotate_left
  · (rintro w ⟨s0, s1, s2, s3, s4, s5, s6, s7, s8, s9, s10, s11, s12, s13, s14, s15, s16, s17⟩; go_simp; (first | done | rfl))
  try simp only [Act.put, List.getElem_toArray, List.getElem_cons_zero, List.getElem_cons_succ, List.setIfInBounds_toArray, List.set_cons_zero, List.set_cons_succ]
  refine wpAnyH_take (i := 26) (oi := _) (v := ?_) rfl (by kernel_rfl) (by kernel_rfl) (by kernel_rfl) (fun _ _ _ h => h) (Or.inl ⟨by kernel_rfl, ?_⟩) ⟨b0.cell rfl, b1.cell rfl, b1.cell rfl, b1.cell rfl, b1.cell rfl, b2.cell rfl, m0.cell rfl, n4.cell rfl, n4.cell rfl, n4.cell rfl, n4.cell rfl, n4.cell rfl, k4.cell rfl, k4.cell rfl, k4.cell rfl, k4.cell rfl, k4.cell rfl, k4.cell rfl⟩ ?_
  rotate_left
  · (rintro w ⟨s0, s1, s2, s3, s4, s5, s6, s7, s8, s9, s10, s11, s12, s13, s14, s15, s16, s17⟩; go_simp; (first | done | rfl))
  try simp only [Act.put, List.getElem_toArray, List.getElem_cons_zero, List.getElem_cons_succ, List.setIfInBounds_toArray, List.set_cons_zero, List.set_cons_succ]
  refine wpAnyH_take (i := 27) (oi := _) (v := ?_) rfl (by kernel_rfl) (by kernel_rfl) (by kernel_rfl) (fun _ _ _ h => h) (Or.inl ⟨by kernel_rfl, ?_⟩) ⟨b0.cell rfl, b1.cell rfl, b1.cell rfl, b1.cell rfl, b1.cell rfl, b2.cell rfl, m0.cell rfl, n4.cell rfl, n4.cell rfl, n4.cell rfl, n4.cell rfl, n4.cell rfl, k4.cell rfl, k4.cell rfl, k4.cell rfl, k4.cell rfl, k4.cell rfl, k4.cell rfl⟩ ?_
  rotate_left
  · (rintro w ⟨s0, s1, s2, s3, s4, s5, s6, s7, s8, s9, s10, s11, s12, s13, s14, s15, s16, s17⟩; go_simp; (first | done | rfl))
  try simp only [Act.put, List.getElem_toArray, List.getElem_cons_zero, List.getElem_cons_succ, List.setIfInBounds_toArray, List.set_cons_zero, List.set_cons_succ]
  refine wpAnyH_ready (rs := [7]) (by kernel_rfl) (by simp) (AllReadyH.cons (o := _) rfl (fun K hK => ?_) AllReadyH.nil)
  rw [if_pos (by kernel_rfl)]
  refine wp_fn 91 _ _ rfl _ rfl enters_grow (grow_ _ S lo ml al aml x tot.drew tml.drew fx (by omega)) ?_
  rintro e w7 ⟨a7, rfl, ht7, hb7⟩
  have hB7 : Below w6.heap.size w6 w7 := below_undrew hb7
  refine ⟨_, rfl, ?_⟩
  refine hK.out _ _ ⟨(b0.keep hB7).cell rfl, (b1.keep hB7).cell rfl, (b1.keep hB7).cell rfl, (b1.keep hB7).cell rfl, (b1.keep hB7).cell rfl, (b2.keep hB7).cell rfl, (m0.keep hB7).cell rfl, (n4.keep hB7).cell rfl, (n4.keep hB7).cell rfl, (n4.keep hB7).cell rfl, (n4.keep hB7).cell rfl, (n4.keep hB7).cell rfl, (k4.keep hB7).cell rfl, (k4.keep hB7).cell rfl, (k4.keep hB7).cell rfl, (k4.keep hB7).cell rfl, (k4.keep hB7).cell rfl, (k4.keep hB7).cell rfl⟩ (fun _ => ?_)
  clear hK K
  try simp only [Act.put, List.getElem_toArray, List.getElem_cons_zero, List.getElem_cons_succ, List.setIfInBounds_toArray, List.set_cons_zero, List.set_cons_succ]
  refine wpAnyH_ready (rs := [28]) (by kernel_rfl) (by simp) (AllReadyH.cons (o := _) rfl (fun K hK => ?_) AllReadyH.nil)
  rw [if_pos (by kernel_rfl)]
  refine wp_fn 91 _ _ rfl _ rfl enters_grow (grow_ _ S mr ou amr aou kx (tmr.below hB7) (tou.below hB7) fkx (by omega)) ?_
  rintro e w8 ⟨a8, rfl, ht8, hb8⟩
  have hB8 : Below w6.heap.size w6 w8 := below_step hB7 hb8 (Nat.le_refl _)
  refine ⟨_, rfl, ?_⟩
  refine hK.out _ _ ⟨(b0.keep hB8).cell rfl, (b1.keep hB8).cell rfl, (b1.keep hB8).cell rfl, (b1.keep hB8).cell rfl, (b1.keep hB8).cell rfl, (b2.keep hB8).cell rfl, (m0.keep hB8).cell rfl, (n4.keep hB8).cell rfl, (n4.keep hB8).cell rfl, (n4.keep hB8).cell rfl, (n4.keep hB8).cell rfl, (n4.keep hB8).cell rfl, (k4.keep hB8).cell rfl, (k4.keep hB8).cell rfl, (k4.keep hB8).cell rfl, (k4.keep hB8).cell rfl, (k4.keep hB8).cell rfl, (k4.keep hB8).cell rfl⟩ (fun _ => ?_)
  clear hK K
  try simp only [Act.put, List.getElem_toArray, List.getElem_cons_zero, List.getElem_cons_succ, List.setIfInBounds_toArray, List.set_cons_zero, List.set_cons_succ]
  refine wpAnyH_ready (rs := [29]) (by kernel_rfl) (by simp) (AllReadyH.cons (o := _) rfl (fun K hK => ?_) AllReadyH.nil)
  rw [if_pos (by kernel_rfl)]
  refine wp_fn 91 _ _ rfl _ rfl enters_grow (grow_ _ S _ _ a7 a8 mx (ht7.below hb8) ht8 fmx (by simp only [Tr.size]; omega)) ?_
  rintro e w9 ⟨a9, rfl, ht9, hb9⟩
  have hB9 : Below w6.heap.size w6 w9 := below_step hB8 hb9 (Nat.le_refl _)
  refine ⟨_, rfl, ?_⟩
  refine hK.out _ _ ⟨(b0.keep hB9).cell rfl, (b1.keep hB9).cell rfl, (b1.keep hB9).cell rfl, (b1.keep hB9).cell rfl, (b1.keep hB9).cell rfl, (b2.keep hB9).cell rfl, (m0.keep hB9).cell rfl, (n4.keep hB9).cell rfl, (n4.keep hB9).cell rfl, (n4.keep hB9).cell rfl, (n4.keep hB9).cell rfl, (n4.keep hB9).cell rfl, (k4.keep hB9).cell rfl, (k4.keep hB9).cell rfl, (k4.keep hB9).cell rfl, (k4.keep hB9).cell rfl, (k4.keep hB9).cell rfl, (k4.keep hB9).cell rfl⟩ (fun _ => ?_)
  clear hK K
  try simp only [Act.put, List.getElem_toArray, List.getElem_cons_zero, List.getElem_cons_succ, List.setIfInBounds_toArray, List.set_cons_zero, List.set_cons_succ]
  refine wpAnyH_ready (rs := [30]) (by kernel_rfl) (by simp) (AllReadyH.cons (o := _) rfl (fun K hK => ?_) AllReadyH.nil)
  rw [if_pos (by kernel_rfl)]
  refine wp_store_blk 103 _ _ rfl (w.heap.size + 1 + 1 + 1) 103 _ #[.pointer a9] (b3.keep hB9) rfl rfl rfl size_tree (one_ptr _) ?_
  intro w10 hk10 ht10
  refine hK.out _ _ ⟨(ht10.blk (b0.keep hB9) (by omega)).cell rfl, (ht10.blk (b1.keep hB9) (by omega)).cell rfl, (ht10.blk (b1.keep hB9) (by omega)).cell rfl, (ht10.blk (b1.keep hB9) (by omega)).cell rfl, (ht10.blk (b1.keep hB9) (by omega)).cell rfl, (ht10.blk (b2.keep hB9) (by omega)).cell rfl, (ht10.blk (m0.keep hB9) (by omega)).cell rfl, (ht10.blk (n4.keep hB9) (by omega)).cell rfl, (ht10.blk (n4.keep hB9) (by omega)).cell rfl, (ht10.blk (n4.keep hB9) (by omega)).cell rfl, (ht10.blk (n4.keep hB9) (by omega)).cell rfl, (ht10.blk (n4.keep hB9) (by omega)).cell rfl, (ht10.blk (k4.keep hB9) (by omega)).cell rfl, (ht10.blk (k4.keep hB9) (by omega)).cell rfl, (ht10.blk (k4.keep hB9) (by omega)).cell rfl, (ht10.blk (k4.keep hB9) (by omega)).cell rfl, (ht10.blk (k4.keep hB9) (by omega)).cell rfl, (ht10.blk (k4.keep hB9) (by omega)).cell rfl⟩ (fun _ => ?_)
  clear hK K
  try simp only [Act.put, List.getElem_toArray, List.getElem_cons_zero, List.getElem_cons_succ, List.setIfInBounds_toArray, List.set_cons_zero, List.set_cons_succ]
  refine wpAnyH_done (by kernel_rfl) ?_ _
  refine NoPanic.normal ?_
  go_wp2
  refine bodyPost_ret (results_tr rfl rfl hk10) rfl ?_
  have hB10 : Below w.heap.size w w10 := (hB4.trans (hB9.mono hB4.size)).trans (ht10.below (by omega) (by have := (hB4.trans (hB9.mono hB4.size)).size; omega))
  exact ⟨_, rfl, ht9.var (b3.keep hB9) ht10, hB10⟩
end
end Go.Proofs.Ytfcfffilfmbpeaa

namespace Go.Proofs.Ytfcfffilfmbpeaa
open Go.RowKit

section
variable (w : World) (S : Nat → Prop)
set_option maxRecDepth 100000 in
set_option maxHeartbeats 4000000 in
theorem level_hi1 (nf : Bool) (ou lo : Tr) (kx : Ext) (md : Tr) (al ah : Option Addr) (x : Ext) (hl : Tree w S al lo) (hh : Tree w S ah (Tr.node nf md kx ou)) (fx : Fit x)
    (hs : (Tr.node nf md kx ou).size + lo.size ≤ 1000000) (hd : (Tr.node nf md kx ou).deep = lo.deep + 2) (hm : md.deep ≤ ou.deep) :
    Calls Try.prog 90 #[.agg #[.pointer al], .agg #[.int .i64 x.off, .int .i64 x.len, .int .i64 x.phys, .int .i64 x.birth], .agg #[.pointer ah]] w fun e w' => ∃ a, e = .returned (.agg #[.pointer a]) ∧ Tree w' S a (.node true (.node true lo x md) kx ou) ∧ Below w.heap.size w w' := by
  have hdl := Tr.deep_size (Tr.node nf md kx ou)
  obtain ⟨t, ht⟩ : ∃ t, t = Tr.node nf md kx ou := ⟨_, rfl⟩
  obtain ⟨m, hmm⟩ : ∃ m, m = md := ⟨_, rfl⟩
  have hwd : IntKind.i64.wrap ((lo.deep : Int) - (t.deep : Int)) = -2 := by rw [ht, IntKind.wrap_i64]; omega
  have hbig := hh
  obtain ⟨bl, am, aou, rfl, hbl, fkx, -, hmid, hou⟩ := hh
  have hmid0 := hmid
  have hgt : ¬ (ou.deep : Int) < (m.deep : Int) := by rw [hmm]; omega
  have hsz : ou.size + md.size + lo.size ≤ 999999 := by simp only [Tr.size] at hs; omega
  rw [← ht] at hbig
  rw [← hmm] at hmid0
  clear hs hd hm hdl ht hmm
  obtain ⟨w1, hw1d, b0, b1, b2, b3, hB1⟩ := boxes3 w al (some ⟨bl, 0, none⟩) x
  have hg1 := hbig.below hB1
  have ho1 := hl.below hB1
  go_enter Try.func90, Try.ntmps90
  go_wp2_with fail
  rw [← hw1d]
  clear hw1d
  generalize hg : w.heap.size = g at *
  refine wp_region_noPanic ?_
  refine wp_region_held_drew (S := (fun w' => w'.cell? ⟨g, 0, none⟩ = some (.pointer al) ∧ w'.cell? ⟨g + 1 + 1, 0, none⟩ = some (.pointer (some ⟨bl, 0, none⟩)))) (by kernel_rfl) ⟨b0.cell rfl, b2.cell rfl⟩ (fun _ => ?_)
  refine wpAnyH_take (i := 0) (oi := _) (v := ?_) rfl (by kernel_rfl) (by kernel_rfl) (by kernel_rfl) (fun _ _ _ h => h) (Or.inl ⟨by kernel_rfl, ?_⟩) ⟨b0.cell rfl, b2.cell rfl⟩ ?_
  rotate_left
  · (rintro w ⟨s0, s1⟩; go_simp; (first | done | rfl))
  try simp only [Act.put, List.getElem_toArray, List.getElem_cons_zero, List.getElem_cons_succ, List.setIfInBounds_toArray, List.set_cons_zero, List.set_cons_succ]
  refine wpAnyH_take (i := 2) (oi := _) (v := ?_) rfl (by kernel_rfl) (by kernel_rfl) (by kernel_rfl) (fun _ _ _ h => h) (Or.inl ⟨by kernel_rfl, ?_⟩) ⟨b0.cell rfl, b2.cell rfl⟩ ?_
  rotate_left
  · (rintro w ⟨s0, s1⟩; go_simp; (first | done | rfl))
  try simp only [Act.put, List.getElem_toArray, List.getElem_cons_zero, List.getElem_cons_succ, List.setIfInBounds_toArray, List.set_cons_zero, List.set_cons_succ]
  refine wpAnyH_ready (rs := [1]) (by kernel_rfl) (by simp) (AllReadyH.cons (o := _) rfl (fun K hK => ?_) AllReadyH.nil)
  rw [if_pos (by kernel_rfl)]
  refine wp_fn 89 _ _ rfl _ rfl enters_deep (deep_ _ S lo al ho1.drew) ?_
  rintro e w2 ⟨rfl, hb2⟩
  have hB2 : Below w1.heap.size w1 w2 := below_undrew hb2
  refine ⟨_, rfl, ?_⟩
  refine hK.out _ _ ⟨(b0.keep hB2).cell rfl, (b2.keep hB2).cell rfl⟩ (fun _ => ?_)
  clear hK K
  try simp only [Act.put, List.getElem_toArray, List.getElem_cons_zero, List.getElem_cons_succ, List.setIfInBounds_toArray, List.set_cons_zero, List.set_cons_succ]
  refine wpAnyH_ready (rs := [3]) (by kernel_rfl) (by simp) (AllReadyH.cons (o := _) rfl (fun K hK => ?_) AllReadyH.nil)
  rw [if_pos (by kernel_rfl)]
  refine wp_fn 89 _ _ rfl _ rfl enters_deep (deep_ _ S t (some ⟨bl, 0, none⟩) (hg1.below hB2)) ?_
  rintro e w3 ⟨rfl, hb3⟩
  have hB3 : Below w1.heap.size w1 w3 := below_step hB2 hb3 (Nat.le_refl _)
  refine ⟨_, rfl, ?_⟩
  refine hK.out _ _ ⟨(b0.keep hB3).cell rfl, (b2.keep hB3).cell rfl⟩ (fun _ => ?_)
  clear hK K
  try simp only [Act.put, List.getElem_toArray, List.getElem_cons_zero, List.getElem_cons_succ, List.setIfInBounds_toArray, List.set_cons_zero, List.set_cons_succ]
  refine wpAnyH_take (i := 4) (oi := _) (v := ?_) rfl (by kernel_rfl) (by kernel_rfl) (by kernel_rfl) (fun _ _ _ h => h) (Or.inl ⟨by kernel_rfl, ?_⟩) ⟨(b0.keep hB3).cell rfl, (b2.keep hB3).cell rfl⟩ ?_
  rotate_left
  · (rintro w ⟨s0, s1⟩; go_simp; (first | done | rfl))
  try simp only [Act.put, List.getElem_toArray, List.getElem_cons_zero, List.getElem_cons_succ, List.setIfInBounds_toArray, List.set_cons_zero, List.set_cons_succ]
  refine wpAnyH_done (by kernel_rfl) ?_ _
  refine NoPanic.normal ?_
  replace b0 := b0.keep hB3
  replace b1 := b1.keep hB3
  replace b2 := b2.keep hB3
  replace b3 := b3.keep hB3
  replace hB3 := hB1.trans (hB3.mono (by have := hB1.size; omega))
  clear hb2 hb3 hB2 hg1 ho1
  have n3 := hbl.below hB3 (by have := hbl.lt; omega)
  have e0 := b2.cell (j := 0) (u := .pointer (some ⟨bl, 0, none⟩)) rfl
  have e1 := n3.cell (j := 4) (u := .pointer am) rfl
  go_wp2_with fail
  obtain ⟨w4, hw4⟩ : ∃ w4, w4 = w3.alloc (.cells #[.pointer am] 103) := ⟨_, rfl⟩
  rw [← hw4]
  have hB34 : Below w3.heap.size w3 w4 := by rw [hw4]; exact (Below.refl _ _).alloc (Nat.le_refl _) _
  have m0 : Blk w4 w3.heap.size 103 #[.pointer am] := by rw [hw4]; exact Blk.new _ _ _ rfl
  have hlt3 := b3.lt
  replace b0 := b0.keep hB34
  replace b1 := b1.keep hB34
  replace b2 := b2.keep hB34
  replace b3 := b3.keep hB34
  have hB4 : Below g w w4 := hB3.trans (hB34.mono (by omega))
  have n4 := hbl.below hB4 (by have := hbl.lt; omega)
  generalize w3.heap.size = q at *
  clear hw4 hB34 e0 e1 n3 hB3 hB1
  subst hg
  have hlbl := hbl.lt
  have tm := hmid0.below hB4
  have tou := hou.below hB4
  have tot := hl.below hB4
  refine wp_region_noPanic ?_
  refine wp_region_held_drew (S := (fun w' => w'.cell? ⟨w.heap.size + 1 + 1, 0, none⟩ = some (.pointer (some ⟨bl, 0, none⟩)) ∧ w'.cell? ⟨q, 0, none⟩ = some (.pointer am) ∧ w'.cell? ⟨bl, 5, none⟩ = some (.pointer aou))) (by kernel_rfl) ⟨b2.cell rfl, m0.cell rfl, n4.cell rfl⟩ (fun _ => ?_)
  refine wpAnyH_take (i := 0) (oi := _) (v := ?_) rfl (by kernel_rfl) (by kernel_rfl) (by kernel_rfl) (fun _ _ _ h => h) (Or.inl ⟨by kernel_rfl, ?_⟩) ⟨b2.cell rfl, m0.cell rfl, n4.cell rfl⟩ ?_
  rotate_left
  · (rintro w ⟨s0, s1, s2⟩; go_simp; (first | done | rfl))
  try simp only [Act.put, List.getElem_toArray, List.getElem_cons_zero, List.getElem_cons_succ, List.setIfInBounds_toArray, List.set_cons_zero, List.set_cons_succ]
  refine wpAnyH_take (i := 2) (oi := _) (v := ?_) rfl (by kernel_rfl) (by kernel_rfl) (by kernel_rfl) (fun _ _ _ h => h) (Or.inl ⟨by kernel_rfl, ?_⟩) ⟨b2.cell rfl, m0.cell rfl, n4.cell rfl⟩ ?_
  rotate_left
  · (rintro w ⟨s0, s1, s2⟩; go_simp; (first | done | rfl))
  try simp only [Act.put, List.getElem_toArray, List.getElem_cons_zero, List.getElem_cons_succ, List.setIfInBounds_toArray, List.set_cons_zero, List.set_cons_succ]
  refine wpAnyH_take (i := 3) (oi := _) (v := ?_) rfl (by kernel_rfl) (by kernel_rfl) (by kernel_rfl) (fun _ _ _ h => h) (Or.inl ⟨by kernel_rfl, ?_⟩) ⟨b2.cell rfl, m0.cell rfl, n4.cell rfl⟩ ?_
  rotate_left
  · (rintro w ⟨s0, s1, s2⟩; go_simp; (first | done | rfl))
  try simp only [Act.put, List.getElem_toArray, List.getElem_cons_zero, List.getElem_cons_succ, List.setIfInBounds_toArray, List.set_cons_zero, List.set_cons_succ]
  refine wpAnyH_take (i := 4) (oi := _) (v := ?_) rfl (by kernel_rfl) (by kernel_rfl) (by kernel_rfl) (fun _ _ _ h => h) (Or.inl ⟨by kernel_rfl, ?_⟩) ⟨b2.cell rfl, m0.cell rfl, n4.cell rfl⟩ ?_
  rotate_left
  · (rintro w ⟨s0, s1, s2⟩; go_simp; (first | done | rfl))
  try simp only [Act.put, List.getElem_toArray, List.getElem_cons_zero, List.getElem_cons_succ, List.setIfInBounds_toArray, List.set_cons_zero, List.set_cons_succ]
  refine wpAnyH_take (i := 5) (oi := _) (v := ?_) rfl (by kernel_rfl) (by kernel_rfl) (by kernel_rfl) (fun _ _ _ h => h) (Or.inl ⟨by kernel_rfl, ?_⟩) ⟨b2.cell rfl, m0.cell rfl, n4.cell rfl⟩ ?_
  rotate_left
  · (rintro w ⟨s0, s1, s2⟩; go_simp; (first | done | rfl))
  try simp only [Act.put, List.getElem_toArray, List.getElem_cons_zero, List.getElem_cons_succ, List.setIfInBounds_toArray, List.set_cons_zero, List.set_cons_succ]
  refine wpAnyH_take (i := 6) (oi := _) (v := ?_) rfl (by kernel_rfl) (by kernel_rfl) (by kernel_rfl) (fun _ _ _ h => h) (Or.inl ⟨by kernel_rfl, ?_⟩) ⟨b2.cell rfl, m0.cell rfl, n4.cell rfl⟩ ?_
  rotate_left
  · (rintro w ⟨s0, s1, s2⟩; go_simp; (first | done | rfl))
  try simp only [Act.put, List.getElem_toArray, List.getElem_cons_zero, List.getElem_cons_succ, List.setIfInBounds_toArray, List.set_cons_zero, List.set_cons_succ]
  refine wpAnyH_ready (rs := [1]) (by kernel_rfl) (by simp) (AllReadyH.cons (o := _) rfl (fun K hK => ?_) AllReadyH.nil)
  rw [if_pos (by kernel_rfl)]
  refine wp_fn 89 _ _ rfl _ rfl enters_deep (deep_ _ S m am tm.drew) ?_
  rintro e w5 ⟨rfl, hb5⟩
  have hB5 : Below w4.heap.size w4 w5 := below_undrew hb5
  refine ⟨_, rfl, ?_⟩
  refine hK.out _ _ ⟨(b2.keep hB5).cell rfl, (m0.keep hB5).cell rfl, (n4.keep hB5).cell rfl⟩ (fun _ => ?_)
  clear hK K
  try simp only [Act.put, List.getElem_toArray, List.getElem_cons_zero, List.getElem_cons_succ, List.setIfInBounds_toArray, List.set_cons_zero, List.set_cons_succ]
  refine wpAnyH_ready (rs := [7]) (by kernel_rfl) (by simp) (AllReadyH.cons (o := _) rfl (fun K hK => ?_) AllReadyH.nil)
  rw [if_pos (by kernel_rfl)]
  refine wp_fn 89 _ _ rfl _ rfl enters_deep (deep_ _ S ou aou (tou.below hB5)) ?_
  rintro e w6 ⟨rfl, hb6⟩
  have hB6 : Below w4.heap.size w4 w6 := below_step hB5 hb6 (Nat.le_refl _)
  refine ⟨_, rfl, ?_⟩
  refine hK.out _ _ ⟨(b2.keep hB6).cell rfl, (m0.keep hB6).cell rfl, (n4.keep hB6).cell rfl⟩ (fun _ => ?_)
  clear hK K
  try simp only [Act.put, List.getElem_toArray, List.getElem_cons_zero, List.getElem_cons_succ, List.setIfInBounds_toArray, List.set_cons_zero, List.set_cons_succ]
  refine wpAnyH_take (i := 8) (oi := _) (v := ?_) rfl (by kernel_rfl) (by kernel_rfl) (by kernel_rfl) (fun _ _ _ h => h) (Or.inl ⟨by kernel_rfl, ?_⟩) ⟨(b2.keep hB6).cell rfl, (m0.keep hB6).cell rfl, (n4.keep hB6).cell rfl⟩ ?_
  rotate_left
  · (rintro w ⟨s0, s1, s2⟩; go_simp; (first | done | rfl))
  try simp only [Act.put, List.getElem_toArray, List.getElem_cons_zero, List.getElem_cons_succ, List.setIfInBounds_toArray, List.set_cons_zero, List.set_cons_succ]
  refine wpAnyH_done (by kernel_rfl) ?_ _
  refine NoPanic.normal ?_
  replace b0 := b0.keep hB6
  replace b1 := b1.keep hB6
  replace b2 := b2.keep hB6
  replace b3 := b3.keep hB6
  replace m0 := m0.keep hB6
  replace n4 := n4.keep hB6
  replace tm := tm.below hB6
  replace tou := tou.below hB6
  replace tot := tot.below hB6
  replace hB4 := hB4.trans (hB6.mono hB4.size)
  clear hB5 hB6 hb5 hb6
  go_wp2_with fail
  have tm' := hmid.below hB4
  refine wp_region_noPanic ?_
  refine wp_region_held_drew (S := (fun w' => w'.cell? ⟨w.heap.size, 0, none⟩ = some (.pointer al) ∧ w'.cell? ⟨w.heap.size + 1, 0, none⟩ = some (.int .i64 x.off) ∧ w'.cell? ⟨w.heap.size + 1, 1, none⟩ = some (.int .i64 x.len) ∧ w'.cell? ⟨w.heap.size + 1, 2, none⟩ = some (.int .i64 x.phys) ∧ w'.cell? ⟨w.heap.size + 1, 3, none⟩ = some (.int .i64 x.birth) ∧ w'.cell? ⟨w.heap.size + 1 + 1, 0, none⟩ = some (.pointer (some ⟨bl, 0, none⟩)) ∧ w'.cell? ⟨bl, 0, none⟩ = some (.int .i64 kx.off) ∧ w'.cell? ⟨bl, 1, none⟩ = some (.int .i64 kx.len) ∧ w'.cell? ⟨bl, 2, none⟩ = some (.int .i64 kx.phys) ∧ w'.cell? ⟨bl, 3, none⟩ = some (.int .i64 kx.birth) ∧ w'.cell? ⟨bl, 5, none⟩ = some (.pointer aou) ∧ w'.cell? ⟨bl, 4, none⟩ = some (.pointer am))) (by kernel_rfl) ⟨b0.cell rfl, b1.cell rfl, b1.cell rfl, b1.cell rfl, b1.cell rfl, b2.cell rfl, n4.cell rfl, n4.cell rfl, n4.cell rfl, n4.cell rfl, n4.cell rfl, n4.cell rfl⟩ (fun _ => ?_)
  refine wpAnyH_take (i := 0) (oi := _) (v := ?_) rfl (by kernel_rfl) (by kernel_rfl) (by kernel_rfl) (fun _ _ _ h => h) (Or.inl ⟨by kernel_rfl, ?_⟩) ⟨b0.cell rfl, b1.cell rfl, b1.cell rfl, b1.cell rfl, b1.cell rfl, b2.cell rfl, n4.cell rfl, n4.cell rfl, n4.cell rfl, n4.cell rfl, n4.cell rfl, n4.cell rfl⟩ ?_
  rotate_left
  · (rintro w ⟨s0, s1, s2, s3, s4, s5, s6, s7, s8, s9, s10, s11⟩; go_simp; (first | done | rfl))
  try simp only [Act.put, List.getElem_toArray, List.getElem_cons_zero, List.getElem_cons_succ, List.setIfInBounds_toArray, List.set_cons_zero, List.set_cons_succ]
  refine wpAnyH_take (i := 1) (oi := _) (v := ?_) rfl (by kernel_rfl) (by kernel_rfl) (by kernel_rfl) (fun _ _ _ h => h) (Or.inl ⟨by kernel_rfl, ?_⟩) ⟨b0.cell rfl, b1.cell rfl, b1.cell rfl, b1.cell rfl, b1.cell rfl, b2.cell rfl, n4.cell rfl, n4.cell rfl, n4.cell rfl, n4.cell rfl, n4.cell rfl, n4.cell rfl⟩ ?_
  rotate_left
  · (rintro w ⟨s0, s1, s2, s3, s4, s5, s6, s7, s8, s9, s10, s11⟩; go_simp; (first | done | rfl))
  try simp only [Act.put, List.getElem_toArray, List.getElem_cons_zero, List.getElem_cons_succ, List.setIfInBounds_toArray, List.set_cons_zero, List.set_cons_succ]
  refine wpAnyH_take (i := 2) (oi := _) (v := ?_) rfl (by kernel_rfl) (by kernel_rfl) (by kernel_rfl) (fun _ _ _ h => h) (Or.inl ⟨by kernel_rfl, ?_⟩) ⟨b0.cell rfl, b1.cell rfl, b1.cell rfl, b1.cell rfl, b1.cell rfl, b2.cell rfl, n4.cell rfl, n4.cell rfl, n4.cell rfl, n4.cell rfl, n4.cell rfl, n4.cell rfl⟩ ?_
  rotate_left
  · (rintro w ⟨s0, s1, s2, s3, s4, s5, s6, s7, s8, s9, s10, s11⟩; go_simp; (first | done | rfl))
  try simp only [Act.put, List.getElem_toArray, List.getElem_cons_zero, List.getElem_cons_succ, List.setIfInBounds_toArray, List.set_cons_zero, List.set_cons_succ]
  refine wpAnyH_take (i := 3) (oi := _) (v := ?_) rfl (by kernel_rfl) (by kernel_rfl) (by kernel_rfl) (fun _ _ _ h => h) (Or.inl ⟨by kernel_rfl, ?_⟩) ⟨b0.cell rfl, b1.cell rfl, b1.cell rfl, b1.cell rfl, b1.cell rfl, b2.cell rfl, n4.cell rfl, n4.cell rfl, n4.cell rfl, n4.cell rfl, n4.cell rfl, n4.cell rfl⟩ ?_
  rotate_left
  · (rintro w ⟨s0, s1, s2, s3, s4, s5, s6, s7, s8, s9, s10, s11⟩; go_simp; (first | done | rfl))
  try simp only [Act.put, List.getElem_toArray, List.getElem_cons_zero, List.getElem_cons_succ, List.setIfInBounds_toArray, List.set_cons_zero, List.set_cons_succ]
  refine wpAnyH_take (i := 4) (oi := _) (v := ?_) rfl (by kernel_rfl) (by kernel_rfl) (by kernel_rfl) (fun _ _ _ h => h) (Or.inl ⟨by kernel_rfl, ?_⟩) ⟨b0.cell rfl, b1.cell rfl, b1.cell rfl, b1.cell rfl, b1.cell rfl, b2.cell rfl, n4.cell rfl, n4.cell rfl, n4.cell rfl, n4.cell rfl, n4.cell rfl, n4.cell rfl⟩ ?_
  rotate_left
  · (rintro w ⟨s0, s1, s2, s3, s4, s5, s6, s7, s8, s9, s10, s11⟩; go_simp; (first | done | rfl))
  try simp only [Act.put, List.getElem_toArray, List.getElem_cons_zero, List.getElem_cons_succ, List.setIfInBounds_toArray, List.set_cons_zero, List.set_cons_succ]
  refine wpAnyH_take (i := 5) (oi := _) (v := ?_) rfl (by kernel_rfl) (by kernel_rfl) (by kernel_rfl) (fun _ _ _ h => h) (Or.inl ⟨by kernel_rfl, ?_⟩) ⟨b0.cell rfl, b1.cell rfl, b1.cell rfl, b1.cell rfl, b1.cell rfl, b2.cell rfl, n4.cell rfl, n4.cell rfl, n4.cell rfl, n4.cell rfl, n4.cell rfl, n4.cell rfl⟩ ?_
  rotate_left
  · (rintro w ⟨s0, s1, s2, s3, s4, s5, s6, s7, s8, s9, s10, s11⟩; go_simp; (first | done | rfl))
  try simp only [Act.put, List.getElem_toArray, List.getElem_cons_zero, List.getElem_cons_succ, List.setIfInBounds_toArray, List.set_cons_zero, List.set_cons_succ]
  refine wpAnyH_take (i := 6) (oi := _) (v := ?_) rfl (by kernel_rfl) (by kernel_rfl) (by kernel_rfl) (fun _ _ _ h => h) (Or.inl ⟨by kernel_rfl, ?_⟩) ⟨b0.cell rfl, b1.cell rfl, b1.cell rfl, b1.cell rfl, b1.cell rfl, b2.cell rfl, n4.cell rfl, n4.cell rfl, n4.cell rfl, n4.cell rfl, n4.cell rfl, n4.cell rfl⟩ ?_
  rotate_left
  · (rintro w ⟨s0, s1, s2, s3, s4, s5, s6, s7, s8, s9, s10, s11⟩; go_simp; (first | done | rfl))
  try simp only [Act.put, List.getElem_toArray, List.getElem_cons_zero, List.getElem_cons_succ, List.setIfInBounds_toArray, List.set_cons_zero, List.set_cons_succ]
  refine wpAnyH_take (i := 8) (oi := _) (v := ?_) rfl (by kernel_rfl) (by kernel_rfl) (by kernel_rfl) (fun _ _ _ h => h) (Or.inl ⟨by kernel_rfl, ?_⟩) ⟨b0.cell rfl, b1.cell rfl, b1.cell rfl, b1.cell rfl, b1.cell rfl, b2.cell rfl, n4.cell rfl, n4.cell rfl, n4.cell rfl, n4.cell rfl, n4.cell rfl, n4.cell rfl⟩ ?_
  rotate_left
  · (rintro w ⟨s0, s1, s2, s3, s4, s5, s6, s7, s8, s9, s10, s11⟩; go_simp; (first | done | rfl))
  try simp only [Act.put, List.getElem_toArray, List.getElem_cons_zero, List.getElem_cons_succ, List.setIfInBounds_toArray, List.set_cons_zero, List.set_cons_succ]
  refine wpAnyH_take (i := 9) (oi := _) (v := ?_) rfl (by kernel_rfl) (by kernel_rfl) (by kernel_rfl) (fun _ _ _ h => h) (Or.inl ⟨by kernel_rfl, ?_⟩) ⟨b0.cell rfl, b1.cell rfl, b1.cell rfl, b1.cell rfl, b1.cell rfl, b2.cell rfl, n4.cell rfl, n4.cell rfl, n4.cell rfl, n4.cell rfl, n4.cell rfl, n4.cell rfl⟩ ?_
  rotate_left
  · (rintro w ⟨s0, s1, s2, s3, s4, s5, s6, s7, s8, s9, s10, s11⟩; go_simp; (first | done | rfl))
  try simp only [Act.put, List.getElem_toArray, List.getElem_cons_zero, List.getElem_cons_succ, List.setIfInBounds_toArray, List.set_cons_zero, List.set_cons_succ]
  refine wpAnyH_take (i := 10) (oi := _) (v := ?_) rfl (by kernel_rfl) (by kernel_rfl) (by kernel_rfl) (fun _ _ _ h => h) (Or.inl ⟨by kernel_rfl, ?_⟩) ⟨b0.cell rfl, b1.cell rfl, b1.cell rfl, b1.cell rfl, b1.cell rfl, b2.cell rfl, n4.cell rfl, n4.cell rfl, n4.cell rfl, n4.cell rfl, n4.cell rfl, n4.cell rfl⟩ ?_
  rotate_left
  · (rintro w ⟨s0, s1, s2, s3, s4, s5, s6, s7, s8, s9, s10, s11⟩; go_simp; (first | done | rfl))
  try simp only [Act.put, List.getElem_toArray, List.getElem_cons_zero, List.getElem_cons_succ, List.setIfInBounds_toArray, List.set_cons_zero, List.set_cons_succ]
  refine wpAnyH_take (i := 11) (oi := _) (v := ?_) rfl (by kernel_rfl) (by kernel_rfl) (by kernel_rfl) (fun _ _ _ h => h) (Or.inl ⟨by kernel_rfl, ?_⟩) ⟨b0.cell rfl, b1.cell rfl, b1.cell rfl, b1.cell rfl, b1.cell rfl, b2.cell rfl, n4.cell rfl, n4.cell rfl, n4.cell rfl, n4.cell rfl, n4.cell rfl, n4.cell rfl⟩ ?_
  rotate_left
  · (rintro w ⟨s0, s1, s2, s3, s4, s5, s6, s7, s8, s9, s10, s11⟩; go_simp; (first | done | rfl))
  try simp only [Act.put, List.getElem_toArray, List.getElem_cons_zero, List.getElem_cons_succ, List.setIfInBounds_toArray, List.set_cons_zero, List.set_cons_succ]
  refine wpAnyH_take (i := 12) (oi := _) (v := ?_) rfl (by kernel_rfl) (by kernel_rfl) (by kernel_rfl) (fun _ _ _ h => h) (Or.inl ⟨by kernel_rfl, ?_⟩) ⟨b0.cell rfl, b1.cell rfl, b1.cell rfl, b1.cell rfl, b1.cell rfl, b2.cell rfl, n4.cell rfl, n4.cell rfl, n4.cell rfl, n4.cell rfl, n4.cell rfl, n4.cell rfl⟩ ?_
  rotate_left
  · (rintro w ⟨s0, s1, s2, s3, s4, s5, s6, s7, s8, s9, s10, s11⟩; go_simp; (first | done | rfl))
  try simp only [Act.put, List.getElem_toArray, List.getElem_cons_zero, List.getElem_cons_succ, List.setIfInBounds_toArray, List.set_cons_zero, List.set_cons_succ]
  refine wpAnyH_take (i := 13) (oi := _) (v := ?_) rfl (by kernel_rfl) (by kernel_rfl) (by kernel_rfl) (fun _ _ _ h => h) (Or.inl ⟨by kernel_rfl, ?_⟩) ⟨b0.cell rfl, b1.cell rfl, b1.cell rfl, b1.cell rfl, b1.cell rfl, b2.cell rfl, n4.cell rfl, n4.cell rfl, n4.cell rfl, n4.cell rfl, n4.cell rfl, n4.cell rfl⟩ ?_
  rotate_left
  · (rintro w ⟨s0, s1, s2, s3, s4, s5, s6, s7, s8, s9, s10, s11⟩; go_simp; (first | done | rfl))
  try simp only [Act.put, List.getElem_toArray, List.getElem_cons_zero, List.getElem_cons_succ, List.setIfInBounds_toArray, List.set_cons_zero, List.set_cons_succ]
  refine wpAnyH_take (i := 14) (oi := _) (v := ?_) rfl (by kernel_rfl) (by kernel_rfl) (by kernel_rfl) (fun _ _ _ h => h) (Or.inl ⟨by kernel_rfl, ?_⟩) ⟨b0.cell rfl, b1.cell rfl, b1.cell rfl, b1.cell rfl, b1.cell rfl, b2.cell rfl, n4.cell rfl, n4.cell rfl, n4.cell rfl, n4.cell rfl, n4.cell rfl, n4.cell rfl⟩ ?_
  rotate_left
  · (rintro w ⟨s0, s1, s2, s3, s4, s5, s6, s7, s8, s9, s10, s11⟩; go_simp; (first | done | rfl))
  try simp only [Act.put, List.getElem_toArray, List.getElem_cons_zero, List.getElem_cons_succ, List.setIfInBounds_toArray, List.set_cons_zero, List.set_cons_succ]
  refine wpAnyH_take (i := 15) (oi := _) (v := ?_) rfl (by kernel_rfl) (by kernel_rfl) (by kernel_rfl) (fun _ _ _ h => h) (Or.inl ⟨by kernel_rfl, ?_⟩) ⟨b0.cell rfl, b1.cell rfl, b1.cell rfl, b1.cell rfl, b1.cell rfl, b2.cell rfl, n4.cell rfl, n4.cell rfl, n4.cell rfl, n4.cell rfl, n4.cell rfl, n4.cell rfl⟩ ?_
  rotate_left
  · (rintro w ⟨s0, s1, s2, s3, s4, s5, s6, s7, s8, s9, s10, s11⟩; go_simp; (first | done | rfl))
  try simp only [Act.put, List.getElem_toArray, List.getElem_cons_zero, List.getElem_cons_succ, List.setIfInBounds_toArray, List.set_cons_zero, List.set_cons_succ]
  refine wpAnyH_take (i := 16) (oi := _) (v := ?_) rfl (by kernel_rfl) (by kernel_rfl) (by kernel_rfl) (fun _ _ _ h => h) (Or.inl ⟨by kernel_rfl, ?_⟩) ⟨b0.cell rfl, b1.cell rfl, b1.cell rfl, b1.cell rfl, b1.cell rfl, b2.cell rfl, n4.cell rfl, n4.cell rfl, n4.cell rfl, n4.cell rfl, n4.cell rfl, n4.cell rfl⟩ ?_
  rotate_left
  · (rintro w ⟨s0, s1, s2, s3, s4, s5, s6, s7, s8, s9, s10, s11⟩; go_simp; (first | done | rfl))
  try simp only [Act.put, List.getElem_toArray, List.getElem_cons_zero, List.getElem_cons_succ, List.setIfInBounds_toArray, List.set_cons_zero, List.set_cons_succ]
  refine wpAnyH_take (i := 17) (oi := _) (v := ?_) rfl (by kernel_rfl) (by kernel_rfl) (by kernel_rfl) (fun _ _ _ h => h) (Or.inl ⟨by kernel_rfl, ?_⟩) ⟨b0.cell rfl, b1.cell rfl, b1.cell rfl, b1.cell rfl, b1.cell rfl, b2.cell rfl, n4.cell rfl, n4.cell rfl, n4.cell rfl, n4.cell rfl, n4.cell rfl, n4.cell rfl⟩ ?_
  rotate_left
  · (rintro w ⟨s0, s1, s2, s3, s4, s5, s6, s7, s8, s9, s10, s11⟩; go_simp; (first | done | rfl))
  try simp only [Act.put, List.getElem_toArray, List.getElem_cons_zero, List.getElem_cons_succ, List.setIfInBounds_toArray, List.set_cons_zero, List.set_cons_succ]
  refine wpAnyH_ready (rs := [7]) (by kernel_rfl) (by simp) (AllReadyH.cons (o := _) rfl (fun K hK => ?_) AllReadyH.nil)
  rw [if_pos (by kernel_rfl)]
  refine wp_fn 91 _ _ rfl _ rfl enters_grow (grow_ _ S lo md al am x tot.drew tm'.drew fx (by omega)) ?_
  rintro e w7 ⟨a7, rfl, ht7, hb7⟩
  have hB7 : Below w6.heap.size w6 w7 := below_undrew hb7
  refine ⟨_, rfl, ?_⟩
  refine hK.out _ _ ⟨(b0.keep hB7).cell rfl, (b1.keep hB7).cell rfl, (b1.keep hB7).cell rfl, (b1.keep hB7).cell rfl, (b1.keep hB7).cell rfl, (b2.keep hB7).cell rfl, (n4.keep hB7).cell rfl, (n4.keep hB7).cell rfl, (n4.keep hB7).cell rfl, (n4.keep hB7).cell rfl, (n4.keep hB7).cell rfl, (n4.keep hB7).cell rfl⟩ (fun _ => ?_)
  clear hK K
  try simp only [Act.put, List.getElem_toArray, List.getElem_cons_zero, List.getElem_cons_succ, List.setIfInBounds_toArray, List.set_cons_zero, List.set_cons_succ]
  refine wpAnyH_ready (rs := [18]) (by kernel_rfl) (by simp) (AllReadyH.cons (o := _) rfl (fun K hK => ?_) AllReadyH.nil)
  rw [if_pos (by kernel_rfl)]
  refine wp_fn 91 _ _ rfl _ rfl enters_grow (grow_ _ S _ ou a7 aou kx ht7 (tou.below hB7) fkx (by simp only [Tr.size]; omega)) ?_
  rintro e w8 ⟨a8, rfl, ht8, hb8⟩
  have hB8 : Below w6.heap.size w6 w8 := below_step hB7 hb8 (Nat.le_refl _)
  refine ⟨_, rfl, ?_⟩
  refine hK.out _ _ ⟨(b0.keep hB8).cell rfl, (b1.keep hB8).cell rfl, (b1.keep hB8).cell rfl, (b1.keep hB8).cell rfl, (b1.keep hB8).cell rfl, (b2.keep hB8).cell rfl, (n4.keep hB8).cell rfl, (n4.keep hB8).cell rfl, (n4.keep hB8).cell rfl, (n4.keep hB8).cell rfl, (n4.keep hB8).cell rfl, (n4.keep hB8).cell rfl⟩ (fun _ => ?_)
  clear hK K
  try simp only [Act.put, List.getElem_toArray, List.getElem_cons_zero, List.getElem_cons_succ, List.setIfInBounds_toArray, List.set_cons_zero, List.set_cons_succ]
  refine wpAnyH_ready (rs := [19]) (by kernel_rfl) (by simp) (AllReadyH.cons (o := _) rfl (fun K hK => ?_) AllReadyH.nil)
  rw [if_pos (by kernel_rfl)]
  refine wp_store_blk 103 _ _ rfl (w.heap.size + 1 + 1 + 1) 103 _ #[.pointer a8] (b3.keep hB8) rfl rfl rfl size_tree (one_ptr _) ?_
  intro w10 hk10 ht10
  refine hK.out _ _ ⟨(ht10.blk (b0.keep hB8) (by omega)).cell rfl, (ht10.blk (b1.keep hB8) (by omega)).cell rfl, (ht10.blk (b1.keep hB8) (by omega)).cell rfl, (ht10.blk (b1.keep hB8) (by omega)).cell rfl, (ht10.blk (b1.keep hB8) (by omega)).cell rfl, (ht10.blk (b2.keep hB8) (by omega)).cell rfl, (ht10.blk (n4.keep hB8) (by omega)).cell rfl, (ht10.blk (n4.keep hB8) (by omega)).cell rfl, (ht10.blk (n4.keep hB8) (by omega)).cell rfl, (ht10.blk (n4.keep hB8) (by omega)).cell rfl, (ht10.blk (n4.keep hB8) (by omega)).cell rfl, (ht10.blk (n4.keep hB8) (by omega)).cell rfl⟩ (fun _ => ?_)
  clear hK K
  try simp only [Act.put, List.getElem_toArray, List.getElem_cons_zero, List.getElem_cons_succ, List.setIfInBounds_toArray, List.set_cons_zero, List.set_cons_succ]
  refine wpAnyH_done (by kernel_rfl) ?_ _
  refine NoPanic.normal ?_
  go_wp2
  refine bodyPost_ret (results_tr rfl rfl hk10) rfl ?_
  have hB10 : Below w.heap.size w w10 := (hB4.trans (hB8.mono hB4.size)).trans (ht10.below (by omega) (by have := (hB4.trans (hB8.mono hB4.size)).size; omega))
  exact ⟨_, rfl, ht8.var (b3.keep hB8) ht10, hB10⟩
end
end Go.Proofs.Ytfcfffilfmbpeaa
