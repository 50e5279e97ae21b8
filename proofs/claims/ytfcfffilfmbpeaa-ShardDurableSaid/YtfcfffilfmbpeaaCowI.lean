/- Layer 7: the last extent taken off; two trees put together; a tree in which what is near is turned. -/
import Derived.Test.YtfcfffilfmbpeaaCowF
import Derived.Test.YtfcfffilfmbpeaaCowX
import Derived.Test.YtfcfffilfmbpeaaCowH
set_option linter.all false
namespace Go.Proofs.Ytfcfffilfmbpeaa
open Go.RowKit

theorem results_tx {fn : Func} {W : World} {s s' q q' : Nat} {a : Option Addr} {x : Ext} {tmps : Array Value} (h : fn.results = #[.cell s 103, .cell s' 77]) (h2 : tmps.getD s undef = .pointer (some ⟨q, 0, none⟩)) (h3 : tmps.getD s' undef = .pointer (some ⟨q', 0, none⟩)) (hb : Blk W q 103 #[.pointer a]) (hc : Blk W q' 77 (ea x)) :
    (results fn tmps).run Try.prog W = .ok (.tuple #[.agg #[.pointer a], .agg #[.int .i64 x.off, .int .i64 x.len, .int .i64 x.phys, .int .i64 x.birth]]) W := by
  have d0 := hb.cell (j := 0) rfl
  have c0 := hc.cell (j := 0) (u := .int .i64 x.off) rfl
  have c1 := hc.cell (j := 1) (u := .int .i64 x.len) rfl
  have c2 := hc.cell (j := 2) (u := .int .i64 x.phys) rfl
  have c3 := hc.cell (j := 3) (u := .int .i64 x.birth) rfl
  have h2' : tmps[s]?.getD undef = .pointer (some ⟨q, 0, none⟩) := by simpa using h2
  have h3' : tmps[s']?.getD undef = .pointer (some ⟨q', 0, none⟩) := by simpa using h3
  simp [results, h, h2', h3', go_sem, d0, c0, c1, c2, c3]
theorem blk_drew {w : World} {b : Nat} {t : TypeId} {cs : Array Value} (h : Blk w b t cs) : Blk w.drew b t cs := h
theorem size_ext : (Try.prog.info? 77).map (·.size) = some 4 := by kernel_rfl
theorem one_ext (x : Ext) : (ea x).all (·.oneCell') = true := by simp [ea, Value.oneCell']
theorem popLast_size {t t' : Tr} {y : Ext} (ht : t.bal) (h : popLast t = some (t', y)) : t'.size + 1 = t.size := by
  rw [Tr.size_list, Tr.size_list, (popLast_is ht h).1]
  simp
theorem popLast_some : ∀ {t : Tr}, t ≠ .nil → ∃ t' y, popLast t = some (t', y)
  | .nil, h => (h rfl).elim
  | .node n lo x hi, _ => by
    unfold popLast
    cases popLast hi with
    | none => exact ⟨_, _, rfl⟩
    | some q => exact ⟨_, _, rfl⟩

section
variable (S : Nat → Prop)
set_option maxRecDepth 100000 in
set_option maxHeartbeats 4000000 in
theorem last_ : ∀ (t t' : Tr) (y : Ext) (a : Option Addr), t.bal → popLast t = some (t', y) → t.size ≤ 500000 → ∀ w : World, Tree w S a t →
    Calls Try.prog 92 #[.agg #[.pointer a]] w fun e w' => ∃ a', e = .returned (.tuple #[.agg #[.pointer a'], .agg #[.int .i64 y.off, .int .i64 y.len, .int .i64 y.phys, .int .i64 y.birth]]) ∧ Tree w' S a' t' ∧ Fit y ∧ Below w.heap.size w w'
  | .node nw L kx R, t', y, a, ht, hp, hs, w, h => by
    obtain ⟨c1, c2, c3, c4⟩ := (Tr.bal_node _ _ _ _).1 ht
    have hsz : L.size + R.size ≤ 499999 := by simp only [Tr.size] at hs; omega
    obtain ⟨bl, aL, aR, rfl, hbl, fkx, -, hL, hR⟩ := h
    have hlbl := hbl.lt
    obtain ⟨w1, hw1⟩ : ∃ w1, w1 = ((w.alloc (.cells #[.pointer (some ⟨bl, 0, none⟩)] 103)).alloc (.cells #[.pointer none] 103)).alloc (.cells #[.int .i64 0, .int .i64 0, .int .i64 0, .int .i64 0] 77) := ⟨_, rfl⟩
    have b0 : Blk w1 w.heap.size 103 #[.pointer (some ⟨bl, 0, none⟩)] := by rw [hw1]; exact ((Blk.new _ _ _ rfl).alloc _).alloc _
    have b1 : Blk w1 (w.heap.size + 1) 103 #[.pointer none] := by rw [hw1]; exact (Blk.new _ _ _ (by simp)).alloc _
    have b2 : Blk w1 (w.heap.size + 1 + 1) 77 #[.int .i64 0, .int .i64 0, .int .i64 0, .int .i64 0] := by rw [hw1]; exact Blk.new _ _ _ (by simp)
    have hB1 : Below w.heap.size w w1 := by rw [hw1]; exact (((Below.refl _ _).alloc (Nat.le_refl _) _).alloc (by simp) _).alloc (by simp; omega) _
    have n1 := hbl.keep hB1
    have tL := hL.below hB1
    have tR := hR.below hB1
    have hlt2 := b2.lt
    have e0 := b0.cell (j := 0) (u := .pointer (some ⟨bl, 0, none⟩)) rfl
    have e5 := n1.cell (j := 5) (u := .pointer aR) rfl
    clear hbl hL hs ht
    generalize hg : w.heap.size = g at *
    cases hpR : popLast R with
    | none =>
      have hRn := popLast_nil hpR
      subst hRn
      unfold popLast at hp
      rw [hpR] at hp
      simp only [Option.some.injEq, Prod.mk.injEq] at hp
      obtain ⟨rfl, rfl⟩ := hp
      have tR0 : aR = none := tR
      subst tR0
      rw [hw1] at e0 e5
      go_enter Try.func92, Try.ntmps92
      go_wp2_with fail
      rw [← hw1]
      clear hw1
      refine wp_region_noPanic ?_
      refine wp_region_held_drew (S := (fun w' => w'.cell? ⟨g, 0, none⟩ = some (.pointer (some ⟨bl, 0, none⟩)) ∧ w'.cell? ⟨bl, 0, none⟩ = some (.int .i64 kx.off) ∧ w'.cell? ⟨bl, 1, none⟩ = some (.int .i64 kx.len) ∧ w'.cell? ⟨bl, 2, none⟩ = some (.int .i64 kx.phys) ∧ w'.cell? ⟨bl, 3, none⟩ = some (.int .i64 kx.birth) ∧ w'.cell? ⟨bl, 4, none⟩ = some (.pointer aL))) (by kernel_rfl) ⟨b0.cell rfl, n1.cell rfl, n1.cell rfl, n1.cell rfl, n1.cell rfl, n1.cell rfl⟩ (fun _ => ?_)
      refine wpAnyH_take (i := 0) (oi := _) (v := ?_) rfl (by kernel_rfl) (by kernel_rfl) (by kernel_rfl) (fun _ _ _ h => h) (Or.inl ⟨by kernel_rfl, ?_⟩) ⟨b0.cell rfl, n1.cell rfl, n1.cell rfl, n1.cell rfl, n1.cell rfl, n1.cell rfl⟩ ?_
      rotate_left
      · (rintro w ⟨s0, s1, s2, s3, s4, s5⟩; go_simp; (first | done | rfl))
      try simp only [Act.put, List.getElem_toArray, List.getElem_cons_zero, List.getElem_cons_succ, List.setIfInBounds_toArray, List.set_cons_zero, List.set_cons_succ]
      refine wpAnyH_take (i := 1) (oi := _) (v := ?_) rfl (by kernel_rfl) (by kernel_rfl) (by kernel_rfl) (fun _ _ _ h => h) (Or.inl ⟨by kernel_rfl, ?_⟩) ⟨b0.cell rfl, n1.cell rfl, n1.cell rfl, n1.cell rfl, n1.cell rfl, n1.cell rfl⟩ ?_
      rotate_left
      · (rintro w ⟨s0, s1, s2, s3, s4, s5⟩; go_simp; (first | done | rfl))
      try simp only [Act.put, List.getElem_toArray, List.getElem_cons_zero, List.getElem_cons_succ, List.setIfInBounds_toArray, List.set_cons_zero, List.set_cons_succ]
      refine wpAnyH_take (i := 2) (oi := _) (v := ?_) rfl (by kernel_rfl) (by kernel_rfl) (by kernel_rfl) (fun _ _ _ h => h) (Or.inl ⟨by kernel_rfl, ?_⟩) ⟨b0.cell rfl, n1.cell rfl, n1.cell rfl, n1.cell rfl, n1.cell rfl, n1.cell rfl⟩ ?_
      rotate_left
      · (rintro w ⟨s0, s1, s2, s3, s4, s5⟩; go_simp; (first | done | rfl))
      try simp only [Act.put, List.getElem_toArray, List.getElem_cons_zero, List.getElem_cons_succ, List.setIfInBounds_toArray, List.set_cons_zero, List.set_cons_succ]
      refine wpAnyH_take (i := 3) (oi := _) (v := ?_) rfl (by kernel_rfl) (by kernel_rfl) (by kernel_rfl) (fun _ _ _ h => h) (Or.inl ⟨by kernel_rfl, ?_⟩) ⟨b0.cell rfl, n1.cell rfl, n1.cell rfl, n1.cell rfl, n1.cell rfl, n1.cell rfl⟩ ?_
      rotate_left
      · (rintro w ⟨s0, s1, s2, s3, s4, s5⟩; go_simp; (first | done | rfl))
      try simp only [Act.put, List.getElem_toArray, List.getElem_cons_zero, List.getElem_cons_succ, List.setIfInBounds_toArray, List.set_cons_zero, List.set_cons_succ]
      refine wpAnyH_take (i := 4) (oi := _) (v := ?_) rfl (by kernel_rfl) (by kernel_rfl) (by kernel_rfl) (fun _ _ _ h => h) (Or.inl ⟨by kernel_rfl, ?_⟩) ⟨b0.cell rfl, n1.cell rfl, n1.cell rfl, n1.cell rfl, n1.cell rfl, n1.cell rfl⟩ ?_
      rotate_left
      · (rintro w ⟨s0, s1, s2, s3, s4, s5⟩; go_simp; (first | done | rfl))
      try simp only [Act.put, List.getElem_toArray, List.getElem_cons_zero, List.getElem_cons_succ, List.setIfInBounds_toArray, List.set_cons_zero, List.set_cons_succ]
      refine wpAnyH_take (i := 5) (oi := _) (v := ?_) rfl (by kernel_rfl) (by kernel_rfl) (by kernel_rfl) (fun _ _ _ h => h) (Or.inl ⟨by kernel_rfl, ?_⟩) ⟨b0.cell rfl, n1.cell rfl, n1.cell rfl, n1.cell rfl, n1.cell rfl, n1.cell rfl⟩ ?_
      rotate_left
      · (rintro w ⟨s0, s1, s2, s3, s4, s5⟩; go_simp; (first | done | rfl))
      try simp only [Act.put, List.getElem_toArray, List.getElem_cons_zero, List.getElem_cons_succ, List.setIfInBounds_toArray, List.set_cons_zero, List.set_cons_succ]
      refine wpAnyH_take (i := 6) (oi := _) (v := ?_) rfl (by kernel_rfl) (by kernel_rfl) (by kernel_rfl) (fun _ _ _ h => h) (Or.inl ⟨by kernel_rfl, ?_⟩) ⟨b0.cell rfl, n1.cell rfl, n1.cell rfl, n1.cell rfl, n1.cell rfl, n1.cell rfl⟩ ?_
      rotate_left
      · (rintro w ⟨s0, s1, s2, s3, s4, s5⟩; go_simp; (first | done | rfl))
      try simp only [Act.put, List.getElem_toArray, List.getElem_cons_zero, List.getElem_cons_succ, List.setIfInBounds_toArray, List.set_cons_zero, List.set_cons_succ]
      refine wpAnyH_take (i := 7) (oi := _) (v := ?_) rfl (by kernel_rfl) (by kernel_rfl) (by kernel_rfl) (fun _ _ _ h => h) (Or.inl ⟨by kernel_rfl, ?_⟩) ⟨b0.cell rfl, n1.cell rfl, n1.cell rfl, n1.cell rfl, n1.cell rfl, n1.cell rfl⟩ ?_
      rotate_left
      · (rintro w ⟨s0, s1, s2, s3, s4, s5⟩; go_simp; (first | done | rfl))
      try simp only [Act.put, List.getElem_toArray, List.getElem_cons_zero, List.getElem_cons_succ, List.setIfInBounds_toArray, List.set_cons_zero, List.set_cons_succ]
      refine wpAnyH_take (i := 8) (oi := _) (v := ?_) rfl (by kernel_rfl) (by kernel_rfl) (by kernel_rfl) (fun _ _ _ h => h) (Or.inl ⟨by kernel_rfl, ?_⟩) ⟨b0.cell rfl, n1.cell rfl, n1.cell rfl, n1.cell rfl, n1.cell rfl, n1.cell rfl⟩ ?_
      rotate_left
      · (rintro w ⟨s0, s1, s2, s3, s4, s5⟩; go_simp; (first | done | rfl))
      try simp only [Act.put, List.getElem_toArray, List.getElem_cons_zero, List.getElem_cons_succ, List.setIfInBounds_toArray, List.set_cons_zero, List.set_cons_succ]
      refine wpAnyH_take (i := 9) (oi := _) (v := ?_) rfl (by kernel_rfl) (by kernel_rfl) (by kernel_rfl) (fun _ _ _ h => h) (Or.inl ⟨by kernel_rfl, ?_⟩) ⟨b0.cell rfl, n1.cell rfl, n1.cell rfl, n1.cell rfl, n1.cell rfl, n1.cell rfl⟩ ?_
      rotate_left
      · (rintro w ⟨s0, s1, s2, s3, s4, s5⟩; go_simp; (first | done | rfl))
      try simp only [Act.put, List.getElem_toArray, List.getElem_cons_zero, List.getElem_cons_succ, List.setIfInBounds_toArray, List.set_cons_zero, List.set_cons_succ]
      refine wpAnyH_ready (rs := [10]) (by kernel_rfl) (by simp) (AllReadyH.cons (o := _) rfl (fun K hK => ?_) AllReadyH.nil)
      rw [if_pos (by kernel_rfl)]
      refine wp_store_blk 103 _ _ rfl (g + 1) 103 _ #[.pointer aL] (blk_drew b1) rfl rfl rfl size_tree (one_ptr _) ?_
      intro w8 hk8 ht8
      refine hK.out _ _ ⟨(ht8.blk (blk_drew b0) (by omega)).cell rfl, (ht8.blk (blk_drew n1) (by omega)).cell rfl, (ht8.blk (blk_drew n1) (by omega)).cell rfl, (ht8.blk (blk_drew n1) (by omega)).cell rfl, (ht8.blk (blk_drew n1) (by omega)).cell rfl, (ht8.blk (blk_drew n1) (by omega)).cell rfl⟩ (fun _ => ?_)
      clear hK K
      try simp only [Act.put, List.getElem_toArray, List.getElem_cons_zero, List.getElem_cons_succ, List.setIfInBounds_toArray, List.set_cons_zero, List.set_cons_succ]
      refine wpAnyH_ready (rs := [11]) (by kernel_rfl) (by simp) (AllReadyH.cons (o := _) rfl (fun K hK => ?_) AllReadyH.nil)
      rw [if_pos (by kernel_rfl)]
      refine wp_store_blk 77 _ _ rfl (g + 1 + 1) 77 _ (ea kx) (ht8.blk (blk_drew b2) (by omega)) rfl rfl rfl size_ext (one_ext _) ?_
      intro w9 hk9 ht9
      refine hK.out _ _ ⟨(ht9.blk (ht8.blk (blk_drew b0) (by omega)) (by omega)).cell rfl, (ht9.blk (ht8.blk (blk_drew n1) (by omega)) (by omega)).cell rfl, (ht9.blk (ht8.blk (blk_drew n1) (by omega)) (by omega)).cell rfl, (ht9.blk (ht8.blk (blk_drew n1) (by omega)) (by omega)).cell rfl, (ht9.blk (ht8.blk (blk_drew n1) (by omega)) (by omega)).cell rfl, (ht9.blk (ht8.blk (blk_drew n1) (by omega)) (by omega)).cell rfl⟩ (fun _ => ?_)
      clear hK K
      try simp only [Act.put, List.getElem_toArray, List.getElem_cons_zero, List.getElem_cons_succ, List.setIfInBounds_toArray, List.set_cons_zero, List.set_cons_succ]
      refine wpAnyH_done (by kernel_rfl) ?_ _
      refine NoPanic.normal ?_
      go_wp2
      refine bodyPost_ret (results_tx rfl rfl rfl (ht9.blk hk8 (by omega)) hk9) rfl ?_
      have hs1 := hB1.size
      have hT : Below g w w9 := ((hB1.drew).trans (ht8.below (by omega) (by show g ≤ w1.heap.size; omega))).trans (ht9.below (by omega) (by have := ht8.size; have h2 : w1.heap.size ≤ w8.heap.size := this; omega))
      exact ⟨aL, rfl, (tL.drew.var (blk_drew b1) ht8).other (ht8.blk (blk_drew b2) (by omega)) (by decide) ht9, fkx, hT⟩
    | some q =>
      obtain ⟨R', z⟩ := q
      unfold popLast at hp
      rw [hpR] at hp
      simp only [Option.some.injEq, Prod.mk.injEq] at hp
      obtain ⟨rfl, rfl⟩ := hp
      obtain ⟨p1, p2, p3, p4, p5⟩ := popLast_is c2 hpR
      have p6 := popLast_size c2 hpR
      cases R with
      | nil => cases hpR
      | node nR RL Rx RR =>
      have tR0 := tR
      obtain ⟨br, -, -, rfl, -, -, -, -, -⟩ := tR0
      rw [hw1] at e0 e5
      go_enter Try.func92, Try.ntmps92
      go_wp2_with fail
      rw [← hw1]
      clear hw1
      refine (last_ (.node nR RL Rx RR) R' z (some ⟨br, 0, none⟩) c2 hpR (by omega) _ tR).mono ?_
      rintro e w2 ⟨a2, rfl, ht2, fz, hb2⟩
      go_wp2_with fail
      obtain ⟨w3, hw3⟩ : ∃ w3, w3 = (w2.alloc (.cells #[.pointer a2] 103)).alloc (.cells #[.int .i64 z.off, .int .i64 z.len, .int .i64 z.phys, .int .i64 z.birth] 77) := ⟨_, rfl⟩
      rw [← hw3]
      have hB23 : Below w2.heap.size w2 w3 := by rw [hw3]; exact ((Below.refl _ _).alloc (Nat.le_refl _) _).alloc (by simp) _
      have m0 : Blk w3 w2.heap.size 103 #[.pointer a2] := by rw [hw3]; exact (Blk.new _ _ _ rfl).alloc _
      have m1 : Blk w3 (w2.heap.size + 1) 77 (ea z) := by rw [hw3]; exact Blk.new _ _ _ (by simp)
      clear hw3
      have hB13 : Below w1.heap.size w1 w3 := hb2.trans (hB23.mono hb2.size)
      replace b0 := b0.keep hB13
      replace b1 := b1.keep hB13
      replace b2 := b2.keep hB13
      replace n1 := n1.keep hB13
      replace tL := tL.below hB13
      have t3 := ht2.below hB23
      have hB3 : Below g w w3 := hB1.trans (hB13.mono (by have := hB1.size; omega))
      have hq := hb2.size
      generalize w2.heap.size = q at *
      clear hb2 hB23 hB13 hB1 e0 e5 ht2 tR
      refine wp_region_noPanic ?_
      refine wp_region_held_drew (S := (fun w' => w'.cell? ⟨g, 0, none⟩ = some (.pointer (some ⟨bl, 0, none⟩)) ∧ w'.cell? ⟨bl, 0, none⟩ = some (.int .i64 kx.off) ∧ w'.cell? ⟨bl, 1, none⟩ = some (.int .i64 kx.len) ∧ w'.cell? ⟨bl, 2, none⟩ = some (.int .i64 kx.phys) ∧ w'.cell? ⟨bl, 3, none⟩ = some (.int .i64 kx.birth) ∧ w'.cell? ⟨bl, 4, none⟩ = some (.pointer aL) ∧ w'.cell? ⟨q, 0, none⟩ = some (.pointer a2) ∧ w'.cell? ⟨(q + 1), 0, none⟩ = some (.int .i64 z.off) ∧ w'.cell? ⟨(q + 1), 1, none⟩ = some (.int .i64 z.len) ∧ w'.cell? ⟨(q + 1), 2, none⟩ = some (.int .i64 z.phys) ∧ w'.cell? ⟨(q + 1), 3, none⟩ = some (.int .i64 z.birth))) (by kernel_rfl) ⟨b0.cell rfl, n1.cell rfl, n1.cell rfl, n1.cell rfl, n1.cell rfl, n1.cell rfl, m0.cell rfl, m1.cell rfl, m1.cell rfl, m1.cell rfl, m1.cell rfl⟩ (fun _ => ?_)
      refine wpAnyH_take (i := 0) (oi := _) (v := ?_) rfl (by kernel_rfl) (by kernel_rfl) (by kernel_rfl) (fun _ _ _ h => h) (Or.inl ⟨by kernel_rfl, ?_⟩) ⟨b0.cell rfl, n1.cell rfl, n1.cell rfl, n1.cell rfl, n1.cell rfl, n1.cell rfl, m0.cell rfl, m1.cell rfl, m1.cell rfl, m1.cell rfl, m1.cell rfl⟩ ?_
      rotate_left
      · (rintro w ⟨s0, s1, s2, s3, s4, s5, s6, s7, s8, s9, s10⟩; go_simp; (first | done | rfl))
      try simp only [Act.put, List.getElem_toArray, List.getElem_cons_zero, List.getElem_cons_succ, List.setIfInBounds_toArray, List.set_cons_zero, List.set_cons_succ]
      refine wpAnyH_take (i := 1) (oi := _) (v := ?_) rfl (by kernel_rfl) (by kernel_rfl) (by kernel_rfl) (fun _ _ _ h => h) (Or.inl ⟨by kernel_rfl, ?_⟩) ⟨b0.cell rfl, n1.cell rfl, n1.cell rfl, n1.cell rfl, n1.cell rfl, n1.cell rfl, m0.cell rfl, m1.cell rfl, m1.cell rfl, m1.cell rfl, m1.cell rfl⟩ ?_
      rotate_left
      · (rintro w ⟨s0, s1, s2, s3, s4, s5, s6, s7, s8, s9, s10⟩; go_simp; (first | done | rfl))
      try simp only [Act.put, List.getElem_toArray, List.getElem_cons_zero, List.getElem_cons_succ, List.setIfInBounds_toArray, List.set_cons_zero, List.set_cons_succ]
      refine wpAnyH_take (i := 2) (oi := _) (v := ?_) rfl (by kernel_rfl) (by kernel_rfl) (by kernel_rfl) (fun _ _ _ h => h) (Or.inl ⟨by kernel_rfl, ?_⟩) ⟨b0.cell rfl, n1.cell rfl, n1.cell rfl, n1.cell rfl, n1.cell rfl, n1.cell rfl, m0.cell rfl, m1.cell rfl, m1.cell rfl, m1.cell rfl, m1.cell rfl⟩ ?_
      rotate_left
      · (rintro w ⟨s0, s1, s2, s3, s4, s5, s6, s7, s8, s9, s10⟩; go_simp; (first | done | rfl))
      try simp only [Act.put, List.getElem_toArray, List.getElem_cons_zero, List.getElem_cons_succ, List.setIfInBounds_toArray, List.set_cons_zero, List.set_cons_succ]
      refine wpAnyH_take (i := 3) (oi := _) (v := ?_) rfl (by kernel_rfl) (by kernel_rfl) (by kernel_rfl) (fun _ _ _ h => h) (Or.inl ⟨by kernel_rfl, ?_⟩) ⟨b0.cell rfl, n1.cell rfl, n1.cell rfl, n1.cell rfl, n1.cell rfl, n1.cell rfl, m0.cell rfl, m1.cell rfl, m1.cell rfl, m1.cell rfl, m1.cell rfl⟩ ?_
      rotate_left
      · (rintro w ⟨s0, s1, s2, s3, s4, s5, s6, s7, s8, s9, s10⟩; go_simp; (first | done | rfl))
      try simp only [Act.put, List.getElem_toArray, List.getElem_cons_zero, List.getElem_cons_succ, List.setIfInBounds_toArray, List.set_cons_zero, List.set_cons_succ]
      refine wpAnyH_take (i := 4) (oi := _) (v := ?_) rfl (by kernel_rfl) (by kernel_rfl) (by kernel_rfl) (fun _ _ _ h => h) (Or.inl ⟨by kernel_rfl, ?_⟩) ⟨b0.cell rfl, n1.cell rfl, n1.cell rfl, n1.cell rfl, n1.cell rfl, n1.cell rfl, m0.cell rfl, m1.cell rfl, m1.cell rfl, m1.cell rfl, m1.cell rfl⟩ ?_
      rotate_left
      · (rintro w ⟨s0, s1, s2, s3, s4, s5, s6, s7, s8, s9, s10⟩; go_simp; (first | done | rfl))
      try simp only [Act.put, List.getElem_toArray, List.getElem_cons_zero, List.getElem_cons_succ, List.setIfInBounds_toArray, List.set_cons_zero, List.set_cons_succ]
      refine wpAnyH_take (i := 5) (oi := _) (v := ?_) rfl (by kernel_rfl) (by kernel_rfl) (by kernel_rfl) (fun _ _ _ h => h) (Or.inl ⟨by kernel_rfl, ?_⟩) ⟨b0.cell rfl, n1.cell rfl, n1.cell rfl, n1.cell rfl, n1.cell rfl, n1.cell rfl, m0.cell rfl, m1.cell rfl, m1.cell rfl, m1.cell rfl, m1.cell rfl⟩ ?_
      rotate_left
      · (rintro w ⟨s0, s1, s2, s3, s4, s5, s6, s7, s8, s9, s10⟩; go_simp; (first | done | rfl))
      try simp only [Act.put, List.getElem_toArray, List.getElem_cons_zero, List.getElem_cons_succ, List.setIfInBounds_toArray, List.set_cons_zero, List.set_cons_succ]
      refine wpAnyH_take (i := 6) (oi := _) (v := ?_) rfl (by kernel_rfl) (by kernel_rfl) (by kernel_rfl) (fun _ _ _ h => h) (Or.inl ⟨by kernel_rfl, ?_⟩) ⟨b0.cell rfl, n1.cell rfl, n1.cell rfl, n1.cell rfl, n1.cell rfl, n1.cell rfl, m0.cell rfl, m1.cell rfl, m1.cell rfl, m1.cell rfl, m1.cell rfl⟩ ?_
      rotate_left
      · (rintro w ⟨s0, s1, s2, s3, s4, s5, s6, s7, s8, s9, s10⟩; go_simp; (first | done | rfl))
      try simp only [Act.put, List.getElem_toArray, List.getElem_cons_zero, List.getElem_cons_succ, List.setIfInBounds_toArray, List.set_cons_zero, List.set_cons_succ]
      refine wpAnyH_take (i := 7) (oi := _) (v := ?_) rfl (by kernel_rfl) (by kernel_rfl) (by kernel_rfl) (fun _ _ _ h => h) (Or.inl ⟨by kernel_rfl, ?_⟩) ⟨b0.cell rfl, n1.cell rfl, n1.cell rfl, n1.cell rfl, n1.cell rfl, n1.cell rfl, m0.cell rfl, m1.cell rfl, m1.cell rfl, m1.cell rfl, m1.cell rfl⟩ ?_
      rotate_left
      · (rintro w ⟨s0, s1, s2, s3, s4, s5, s6, s7, s8, s9, s10⟩; go_simp; (first | done | rfl))
      try simp only [Act.put, List.getElem_toArray, List.getElem_cons_zero, List.getElem_cons_succ, List.setIfInBounds_toArray, List.set_cons_zero, List.set_cons_succ]
      refine wpAnyH_take (i := 8) (oi := _) (v := ?_) rfl (by kernel_rfl) (by kernel_rfl) (by kernel_rfl) (fun _ _ _ h => h) (Or.inl ⟨by kernel_rfl, ?_⟩) ⟨b0.cell rfl, n1.cell rfl, n1.cell rfl, n1.cell rfl, n1.cell rfl, n1.cell rfl, m0.cell rfl, m1.cell rfl, m1.cell rfl, m1.cell rfl, m1.cell rfl⟩ ?_
      rotate_left
      · (rintro w ⟨s0, s1, s2, s3, s4, s5, s6, s7, s8, s9, s10⟩; go_simp; (first | done | rfl))
      try simp only [Act.put, List.getElem_toArray, List.getElem_cons_zero, List.getElem_cons_succ, List.setIfInBounds_toArray, List.set_cons_zero, List.set_cons_succ]
      refine wpAnyH_take (i := 9) (oi := _) (v := ?_) rfl (by kernel_rfl) (by kernel_rfl) (by kernel_rfl) (fun _ _ _ h => h) (Or.inl ⟨by kernel_rfl, ?_⟩) ⟨b0.cell rfl, n1.cell rfl, n1.cell rfl, n1.cell rfl, n1.cell rfl, n1.cell rfl, m0.cell rfl, m1.cell rfl, m1.cell rfl, m1.cell rfl, m1.cell rfl⟩ ?_
      rotate_left
      · (rintro w ⟨s0, s1, s2, s3, s4, s5, s6, s7, s8, s9, s10⟩; go_simp; (first | done | rfl))
      try simp only [Act.put, List.getElem_toArray, List.getElem_cons_zero, List.getElem_cons_succ, List.setIfInBounds_toArray, List.set_cons_zero, List.set_cons_succ]
      refine wpAnyH_take (i := 10) (oi := _) (v := ?_) rfl (by kernel_rfl) (by kernel_rfl) (by kernel_rfl) (fun _ _ _ h => h) (Or.inl ⟨by kernel_rfl, ?_⟩) ⟨b0.cell rfl, n1.cell rfl, n1.cell rfl, n1.cell rfl, n1.cell rfl, n1.cell rfl, m0.cell rfl, m1.cell rfl, m1.cell rfl, m1.cell rfl, m1.cell rfl⟩ ?_
      rotate_left
      · (rintro w ⟨s0, s1, s2, s3, s4, s5, s6, s7, s8, s9, s10⟩; go_simp; (first | done | rfl))
      try simp only [Act.put, List.getElem_toArray, List.getElem_cons_zero, List.getElem_cons_succ, List.setIfInBounds_toArray, List.set_cons_zero, List.set_cons_succ]
      refine wpAnyH_take (i := 12) (oi := _) (v := ?_) rfl (by kernel_rfl) (by kernel_rfl) (by kernel_rfl) (fun _ _ _ h => h) (Or.inl ⟨by kernel_rfl, ?_⟩) ⟨b0.cell rfl, n1.cell rfl, n1.cell rfl, n1.cell rfl, n1.cell rfl, n1.cell rfl, m0.cell rfl, m1.cell rfl, m1.cell rfl, m1.cell rfl, m1.cell rfl⟩ ?_
      rotate_left
      · (rintro w ⟨s0, s1, s2, s3, s4, s5, s6, s7, s8, s9, s10⟩; go_simp; (first | done | rfl))
      try simp only [Act.put, List.getElem_toArray, List.getElem_cons_zero, List.getElem_cons_succ, List.setIfInBounds_toArray, List.set_cons_zero, List.set_cons_succ]
      refine wpAnyH_ready (rs := [11]) (by kernel_rfl) (by simp) (AllReadyH.cons (o := _) rfl (fun K hK => ?_) AllReadyH.nil)
      rw [if_pos (by kernel_rfl)]
      refine wp_fn 90 _ _ rfl _ rfl enters_level (level_ _ S L R' aL a2 kx tL.drew t3.drew fkx (by omega) (by omega) (by omega)) ?_
      rintro e w4 ⟨a4, rfl, ht4, hb4⟩
      have hB4 : Below w3.heap.size w3 w4 := below_undrew hb4
      refine ⟨_, rfl, ?_⟩
      refine hK.out _ _ ⟨(b0.keep hB4).cell rfl, (n1.keep hB4).cell rfl, (n1.keep hB4).cell rfl, (n1.keep hB4).cell rfl, (n1.keep hB4).cell rfl, (n1.keep hB4).cell rfl, (m0.keep hB4).cell rfl, (m1.keep hB4).cell rfl, (m1.keep hB4).cell rfl, (m1.keep hB4).cell rfl, (m1.keep hB4).cell rfl⟩ (fun _ => ?_)
      clear hK K
      try simp only [Act.put, List.getElem_toArray, List.getElem_cons_zero, List.getElem_cons_succ, List.setIfInBounds_toArray, List.set_cons_zero, List.set_cons_succ]
      refine wpAnyH_ready (rs := [13]) (by kernel_rfl) (by simp) (AllReadyH.cons (o := _) rfl (fun K hK => ?_) AllReadyH.nil)
      rw [if_pos (by kernel_rfl)]
      refine wp_store_blk 103 _ _ rfl (g + 1) 103 _ #[.pointer a4] (b1.keep hB4) rfl rfl rfl size_tree (one_ptr _) ?_
      intro w8 hk8 ht8
      refine hK.out _ _ ⟨(ht8.blk (b0.keep hB4) (by omega)).cell rfl, (ht8.blk (n1.keep hB4) (by omega)).cell rfl, (ht8.blk (n1.keep hB4) (by omega)).cell rfl, (ht8.blk (n1.keep hB4) (by omega)).cell rfl, (ht8.blk (n1.keep hB4) (by omega)).cell rfl, (ht8.blk (n1.keep hB4) (by omega)).cell rfl, (ht8.blk (m0.keep hB4) (by omega)).cell rfl, (ht8.blk (m1.keep hB4) (by omega)).cell rfl, (ht8.blk (m1.keep hB4) (by omega)).cell rfl, (ht8.blk (m1.keep hB4) (by omega)).cell rfl, (ht8.blk (m1.keep hB4) (by omega)).cell rfl⟩ (fun _ => ?_)
      clear hK K
      try simp only [Act.put, List.getElem_toArray, List.getElem_cons_zero, List.getElem_cons_succ, List.setIfInBounds_toArray, List.set_cons_zero, List.set_cons_succ]
      refine wpAnyH_ready (rs := [14]) (by kernel_rfl) (by simp) (AllReadyH.cons (o := _) rfl (fun K hK => ?_) AllReadyH.nil)
      rw [if_pos (by kernel_rfl)]
      refine wp_store_blk 77 _ _ rfl (g + 1 + 1) 77 _ (ea z) (ht8.blk (b2.keep hB4) (by omega)) rfl rfl rfl size_ext (one_ext _) ?_
      intro w9 hk9 ht9
      refine hK.out _ _ ⟨(ht9.blk (ht8.blk (b0.keep hB4) (by omega)) (by omega)).cell rfl, (ht9.blk (ht8.blk (n1.keep hB4) (by omega)) (by omega)).cell rfl, (ht9.blk (ht8.blk (n1.keep hB4) (by omega)) (by omega)).cell rfl, (ht9.blk (ht8.blk (n1.keep hB4) (by omega)) (by omega)).cell rfl, (ht9.blk (ht8.blk (n1.keep hB4) (by omega)) (by omega)).cell rfl, (ht9.blk (ht8.blk (n1.keep hB4) (by omega)) (by omega)).cell rfl, (ht9.blk (ht8.blk (m0.keep hB4) (by omega)) (by omega)).cell rfl, (ht9.blk (ht8.blk (m1.keep hB4) (by omega)) (by omega)).cell rfl, (ht9.blk (ht8.blk (m1.keep hB4) (by omega)) (by omega)).cell rfl, (ht9.blk (ht8.blk (m1.keep hB4) (by omega)) (by omega)).cell rfl, (ht9.blk (ht8.blk (m1.keep hB4) (by omega)) (by omega)).cell rfl⟩ (fun _ => ?_)
      clear hK K
      try simp only [Act.put, List.getElem_toArray, List.getElem_cons_zero, List.getElem_cons_succ, List.setIfInBounds_toArray, List.set_cons_zero, List.set_cons_succ]
      refine wpAnyH_done (by kernel_rfl) ?_ _
      refine NoPanic.normal ?_
      go_wp2
      refine bodyPost_ret (results_tx rfl rfl rfl (ht9.blk hk8 (by omega)) hk9) rfl ?_
      have hs3 := hB3.size
      have hs4 := hB4.size
      have hs8 := ht8.size
      have hT : Below g w w9 := ((hB3.trans (hB4.mono (by omega))).trans (ht8.below (by omega) (by omega))).trans (ht9.below (by omega) (by omega))
      exact ⟨a4, rfl, (ht4.var (b1.keep hB4) ht8).other (ht8.blk (b2.keep hB4) (by omega)) (by decide) ht9, fz, hT⟩
end
end Go.Proofs.Ytfcfffilfmbpeaa

namespace Go.Proofs.Ytfcfffilfmbpeaa
open Go.RowKit

theorem join2_size {lo hi : Tr} (hl : lo.bal) (hh : hi.bal) : (join2 lo hi).size = lo.size + hi.size := by
  rw [Tr.size_list, (join2_is hl hh).1, Tr.size_list, Tr.size_list, List.length_append]
theorem pushT_size {l : List Ext} {t : Tr} (h : t.bal) : (pushT t l).size = t.size + l.length := by
  rw [Tr.size_list, (pushT_is h).1, Tr.size_list, List.length_append]
theorem pushT_snoc (t : Tr) (l : List Ext) (x : Ext) : pushT t (l ++ [x]) = joinT (pushT t l) x .nil := by simp [pushT]
section
variable (S : Nat → Prop)
set_option maxRecDepth 100000 in
set_option maxHeartbeats 4000000 in
theorem meet_ (lo hi : Tr) (al ah : Option Addr) (bl : lo.bal) (bh : hi.bal) (hs : lo.size + hi.size ≤ 400000) (w : World) (hl : Tree w S al lo) (hh : Tree w S ah hi) :
    Calls Try.prog 87 #[.agg #[.pointer al], .agg #[.pointer ah]] w fun e w' => ∃ a, e = .returned (.agg #[.pointer a]) ∧ Tree w' S a (join2 lo hi) ∧ Below w.heap.size w w' := by
  obtain ⟨w1, hw1⟩ : ∃ w1, w1 = ((w.alloc (.cells #[.pointer al] 103)).alloc (.cells #[.pointer ah] 103)).alloc (.cells #[.pointer none] 103) := ⟨_, rfl⟩
  have b0 : Blk w1 w.heap.size 103 #[.pointer al] := by rw [hw1]; exact ((Blk.new _ _ _ rfl).alloc _).alloc _
  have b1 : Blk w1 (w.heap.size + 1) 103 #[.pointer ah] := by rw [hw1]; exact (Blk.new _ _ _ (by simp)).alloc _
  have b2 : Blk w1 (w.heap.size + 1 + 1) 103 #[.pointer none] := by rw [hw1]; exact Blk.new _ _ _ (by simp)
  have hB1 : Below w.heap.size w w1 := by rw [hw1]; exact (((Below.refl _ _).alloc (Nat.le_refl _) _).alloc (by simp) _).alloc (by simp; omega) _
  have tl := hl.below hB1
  have th := hh.below hB1
  have hlt2 := b2.lt
  have hs1 := hB1.size
  have e0 := b0.cell (j := 0) (u := .pointer al) rfl
  have e1 := b1.cell (j := 0) (u := .pointer ah) rfl
  have f2 := b2.free 0
  have e2 := b2.cell (j := 0) (u := .pointer none) rfl
  clear hl
  generalize hg : w.heap.size = g at *
  cases hp : popLast lo with
  | none =>
    have hn := popLast_nil hp
    subst hn
    have ha : al = none := tl
    subst ha
    have Hj := Lib.hid (show join2 .nil hi = hi by unfold join2; rw [hp])
    rw [hw1] at e0 e1 e2 f2
    clear hw1 hB1 hs1 hlt2 b0 b1 b2 th tl
    have hk : Blk (((w.alloc (.cells #[.pointer none] 103)).alloc (.cells #[.pointer ah] 103)).alloc (.cells #[.pointer ah] 103)) (g + 1 + 1) 103 #[.pointer ah] := Blk.new _ _ _ (by simp; omega)
    have hB : Below w.heap.size w (((w.alloc (.cells #[.pointer none] 103)).alloc (.cells #[.pointer ah] 103)).alloc (.cells #[.pointer ah] 103)) := (((Below.refl _ _).alloc (Nat.le_refl _) _).alloc (by simp) _).alloc (by simp; omega) _
    have th := hh.below hB
    go_enter Try.func87, Try.ntmps87
    go_wp2
    refine bodyPost_ret (results_tr rfl rfl hk) rfl ?_
    rw [Hj.out]
    subst hg
    exact ⟨_, rfl, th, hB⟩
  | some q =>
    obtain ⟨lo', y⟩ := q
    have Hj := Lib.hid (show join2 lo hi = joinT lo' y hi by unfold join2; rw [hp])
    obtain ⟨p1, p2, p3, p4, p5⟩ := popLast_is bl hp
    have p6 := popLast_size bl hp
    cases lo with
    | nil => cases hp
    | node nR RL Rx RR =>
    have tl0 := tl
    obtain ⟨br, -, -, rfl, -, -, -, -, -⟩ := tl0
    rw [hw1] at e0 e1 e2 f2
    go_enter Try.func87, Try.ntmps87
    go_wp2_with fail
    rw [← hw1]
    clear hw1 e0 e1 e2 f2
    refine (last_ S (.node nR RL Rx RR) lo' y (some ⟨br, 0, none⟩) bl hp (by omega) _ tl).mono ?_
    rintro e w2 ⟨a2, rfl, ht2, fy, hb2⟩
    have m1 := ((((b1.keep hb2).alloc (.cells #[.pointer a2] 103)).alloc (.cells #[.int .i64 y.off, .int .i64 y.len, .int .i64 y.phys, .int .i64 y.birth] 77))).cell (j := 0) (u := .pointer ah) rfl
    go_wp2_with fail
    obtain ⟨w3, hw3⟩ : ∃ w3, w3 = (w2.alloc (.cells #[.pointer a2] 103)).alloc (.cells #[.int .i64 y.off, .int .i64 y.len, .int .i64 y.phys, .int .i64 y.birth] 77) := ⟨_, rfl⟩
    rw [← hw3]
    have hB23 : Below w2.heap.size w2 w3 := by rw [hw3]; exact ((Below.refl _ _).alloc (Nat.le_refl _) _).alloc (by simp) _
    have hB13 : Below w1.heap.size w1 w3 := hb2.trans (hB23.mono hb2.size)
    clear hw3 m1
    refine (tjoin_ S p2 bh (by omega) w3 a2 ah y (ht2.below hB23) (th.below hB13) fy).mono ?_
    rintro e w4 ⟨a4, rfl, ht4, hb4⟩
    have hB14 : Below w1.heap.size w1 w4 := hB13.trans (hb4.mono hB13.size)
    have k2 := b2.keep hB14
    have f2 := k2.free 0
    have e2 := k2.cell (j := 0) (u := .pointer none) rfl
    go_wp2
    refine bodyPost_ret (results_tr rfl rfl (k2.setCell 0 (.pointer a4))) rfl ?_
    rw [Hj.out]
    exact ⟨_, rfl, ht4.var k2 (Tn.set _ _ _ (Nat.le_refl _) (Nat.lt_succ_self _)), (hB1.trans (hB14.mono hs1)).trans ((Tn.set (lo := g + 1 + 1) (hi := g + 1 + 1 + 1) _ _ _ (Nat.le_refl _) (Nat.lt_succ_self _)).below (by omega) (by have := hB14.size; omega))⟩
end
end Go.Proofs.Ytfcfffilfmbpeaa

namespace Go.Proofs.Ytfcfffilfmbpeaa
open Go.RowKit

theorem take_succ_of {l : List Ext} {k : Nat} {x : Ext} (h : l[k]? = some x) : l.take (k + 1) = l.take k ++ [x] := by
  rw [List.take_add_one, h]; rfl
section
variable (S : Nat → Prop)
set_option maxRecDepth 100000 in
set_option maxHeartbeats 4000000 in
theorem tturn_ (t : Tr) (a : Option Addr) (A : Option Addr) (n c : Nat) (l : List Ext) (b e : Int) (fb : I64 b) (fe : I64 e) (ht : t.bal) (hl : listFrom 0 t.list = true) (hs : t.size ≤ 100000) (hn : n ≤ 3) (w : World) (h : Tree w S a t) (hE : Es w A n l) :
    Calls Try.prog 77 #[.agg #[.pointer a], .int .i64 b, .int .i64 e, .slice A n c] w fun en w' => ∃ a', en = .returned (.agg #[.pointer a']) ∧ Tree w' S a' (turnT t b e l) ∧ Below w.heap.size w w' := by
  obtain ⟨i1, i2, i3⟩ := belowT_is (b := b) ht hl
  have iz := Tr.size_filter i1
  obtain ⟨j1, j2, j3⟩ := aboveT_is (e := e) ht hl
  have jz := Tr.size_filter j1
  have Hl := Lib.hid hE.len
  obtain ⟨w1, hw1⟩ : ∃ w1, w1 = (w.alloc (.cells #[.pointer a] 103)).alloc (.cells #[.pointer none] 103) := ⟨_, rfl⟩
  have b0 : Blk w1 w.heap.size 103 #[.pointer a] := by rw [hw1]; exact (Blk.new _ _ _ rfl).alloc _
  have b1 : Blk w1 (w.heap.size + 1) 103 #[.pointer none] := by rw [hw1]; exact Blk.new _ _ _ (by simp)
  have hB1 : Below w.heap.size w w1 := by rw [hw1]; exact ((Below.refl _ _).alloc (Nat.le_refl _) _).alloc (by simp) _
  have hlt1 := b1.lt
  have hs1 := hB1.size
  have t1 := h.below hB1
  have e1 := hE.below hB1
  have e0 := b0.cell (j := 0) (u := .pointer a) rfl
  clear h hE
  generalize hg : w.heap.size = g at *
  rw [hw1] at e0
  go_enter Try.func77, Try.ntmps77
  go_wp2_with fail
  rw [← hw1]
  clear hw1 e0
  refine (below_ S b fb t 0 a ht hl (by omega) w1 t1).mono ?_
  rintro en w2 ⟨a2, rfl, ht2, hb2⟩
  go_wp2_with fail
  obtain ⟨w3, hw3⟩ : ∃ w3, w3 = w2.alloc (.cells #[.pointer a2] 103) := ⟨_, rfl⟩
  rw [← hw3]
  have hB23 : Below w2.heap.size w2 w3 := by rw [hw3]; exact (Below.refl _ _).alloc (Nat.le_refl _) _
  have m0 : Blk w3 w2.heap.size 103 #[.pointer a2] := by rw [hw3]; exact Blk.new _ _ _ rfl
  have hq := hb2.size
  have hlt3 := m0.lt
  generalize w2.heap.size = q at *
  have hB13 : Below w1.heap.size w1 w3 := hb2.trans (hB23.mono hq)
  have ht3 := ht2.below (w' := w3) (by rw [hw3]; exact (Below.refl _ _).alloc (Nat.le_refl _) _)
  clear hw3 hb2 hB23 ht2
  have hstart : Tree w3 S a2 (pushT (belowT t b) (l.take 0)) := by rw [List.take_zero]; exact ht3
  have hfar : Tn q (q + 1) w3 w3 := Tn.refl _ _ _
  go_loopw [17] (fun iv wr => ∃ (k : Nat) (cur : Option Addr), k ≤ n ∧ iv = .int .i64 (k : Int) ∧ Blk wr q 103 #[.pointer cur] ∧ Tree wr S cur (pushT (belowT t b) (l.take k)) ∧ Tn q (q + 1) w3 wr) (fun iv _ => n - (intOf iv).toNat)
  case atStart => exact ⟨0, a2, Nat.zero_le _, rfl, m0, hstart, hfar⟩
  case round =>
    obtain ⟨k, cur, hk, rfl, hm, hT, hF⟩ := hrel
    have hFs := hF.size
    have hB1r : Below w1.heap.size w1 wr := hB13.trans (hF.below (by omega) hB13.size)
    clear m0 hstart hfar ht3
    by_cases hlt : k < n
    · have hil : (k : Int) < (n : Int) := by omega
      obtain ⟨r, o, rfl, x, hx, fx, c0, c1, c2, c3⟩ := (e1.below hB1r).at_ hlt
      have Hx := Lib.hid (take_succ_of hx)
      have hps := pushT_is (l := l.take k) i2
      have hpz := pushT_size (l := l.take k) i2
      have hlk : (l.take k).length ≤ 3 := by simp only [List.length_take]; omega
      have hm1 := (hm.alloc (.cells #[.int .i64 x.off, .int .i64 x.len, .int .i64 x.phys, .int .i64 x.birth] 77)).cell (j := 0) (u := .pointer cur) rfl
      go_wp2_with fail
      refine (tjoin_ S (lo := pushT (belowT t b) (l.take k)) (hi := .nil) hps.2.1 bal_nil (by simp only [Tr.size]; omega) _ cur none x (hT.alloc _) rfl fx).mono ?_
      rintro en w5 ⟨a5, rfl, ht5, hb5⟩
      have hBr5 : Below wr.heap.size wr w5 := ((Below.refl _ _).alloc (Nat.le_refl _) _).trans (hb5.mono (by simp))
      have hm5 := hm.keep hBr5
      have f5 := hm5.free 0
      have c5 := hm5.cell (j := 0) (u := .pointer cur) rfl
      go_wp2
      go_roundw
      case rel => exact ⟨k + 1, a5, by omega, by go_num, hm5.setCell 0 (.pointer a5), (by rw [Hx.out, pushT_snoc]; exact ht5.var hm5 (Tn.set _ _ _ (Nat.le_refl _) (Nat.lt_succ_self _))), (hF.trans (Tn.ofBelow hBr5 (Nat.le_refl _))).trans (Tn.set _ _ _ (Nat.le_refl _) (Nat.lt_succ_self _))⟩
      case measure => simp [intOf]; omega
    · have hin : (n : Int) ≤ (k : Int) := by omega
      have hl' : l.take k = l := List.take_of_length_le (by have := Hl.out; omega)
      rw [hl'] at hT
      have hlen : l.length ≤ 3 := by have := Hl.out; omega
      clear hl'
      have b0r := b0.keep hB1r
      have b1r := b1.keep hB1r
      have tr := t1.below hB1r
      have hlr := hm.lt
      clear b0 b1 t1 e1
      go_wp2_with fail
      refine wp_region_noPanic ?_
      refine wp_region_held_drew (S := (fun w' => w'.cell? ⟨g, 0, none⟩ = some (.pointer a) ∧ w'.cell? ⟨q, 0, none⟩ = some (.pointer cur))) (by kernel_rfl) ⟨b0r.cell rfl, hm.cell rfl⟩ (fun _ => ?_)
      refine wpAnyH_take (i := 0) (oi := _) (v := ?_) rfl (by kernel_rfl) (by kernel_rfl) (by kernel_rfl) (fun _ _ _ h => h) (Or.inl ⟨by kernel_rfl, ?_⟩) ⟨b0r.cell rfl, hm.cell rfl⟩ ?_
      rotate_left
      · (rintro w ⟨s0, s1⟩; go_simp; (first | done | rfl))
      try simp only [Act.put, List.getElem_toArray, List.getElem_cons_zero, List.getElem_cons_succ, List.setIfInBounds_toArray, List.set_cons_zero, List.set_cons_succ]
      refine wpAnyH_take (i := 1) (oi := _) (v := ?_) rfl (by kernel_rfl) (by kernel_rfl) (by kernel_rfl) (fun _ _ _ h => h) (Or.inl ⟨by kernel_rfl, ?_⟩) ⟨b0r.cell rfl, hm.cell rfl⟩ ?_
      rotate_left
      · (rintro w ⟨s0, s1⟩; go_simp; (first | done | rfl))
      try simp only [Act.put, List.getElem_toArray, List.getElem_cons_zero, List.getElem_cons_succ, List.setIfInBounds_toArray, List.set_cons_zero, List.set_cons_succ]
      refine wpAnyH_take (i := 2) (oi := _) (v := ?_) rfl (by kernel_rfl) (by kernel_rfl) (by kernel_rfl) (fun _ _ _ h => h) (Or.inl ⟨by kernel_rfl, ?_⟩) ⟨b0r.cell rfl, hm.cell rfl⟩ ?_
      rotate_left
      · (rintro w ⟨s0, s1⟩; go_simp; (first | done | rfl))
      try simp only [Act.put, List.getElem_toArray, List.getElem_cons_zero, List.getElem_cons_succ, List.setIfInBounds_toArray, List.set_cons_zero, List.set_cons_succ]
      refine wpAnyH_ready (rs := [3]) (by kernel_rfl) (by simp) (AllReadyH.cons (o := _) rfl (fun K hK => ?_) AllReadyH.nil)
      rw [if_pos (by kernel_rfl)]
      refine wp_fn 88 _ _ rfl _ rfl enters_above (above_ S e fe t 0 a ht hl (by omega) _ tr.drew) ?_
      rintro en w5 ⟨a5, rfl, ht5, hb5⟩
      have hB5 : Below wr.heap.size wr w5 := below_undrew hb5
      refine ⟨_, rfl, ?_⟩
      refine hK.out _ _ ⟨(b0r.keep hB5).cell rfl, (hm.keep hB5).cell rfl⟩ (fun _ => ?_)
      clear hK K
      try simp only [Act.put, List.getElem_toArray, List.getElem_cons_zero, List.getElem_cons_succ, List.setIfInBounds_toArray, List.set_cons_zero, List.set_cons_succ]
      refine wpAnyH_ready (rs := [4]) (by kernel_rfl) (by simp) (AllReadyH.cons (o := _) rfl (fun K hK => ?_) AllReadyH.nil)
      rw [if_pos (by kernel_rfl)]
      refine wp_fn 87 _ _ rfl _ rfl enters_meet (meet_ S _ _ cur a5 (pushT_is i2).2.1 j2 (by have := pushT_size (l := l) i2; omega) _ (hT.below hB5) ht5) ?_
      rintro en w6 ⟨a6, rfl, ht6, hb6⟩
      have hB6 : Below wr.heap.size wr w6 := below_step hB5 hb6 (Nat.le_refl _)
      refine ⟨_, rfl, ?_⟩
      refine hK.out _ _ ⟨(b0r.keep hB6).cell rfl, (hm.keep hB6).cell rfl⟩ (fun _ => ?_)
      clear hK K
      try simp only [Act.put, List.getElem_toArray, List.getElem_cons_zero, List.getElem_cons_succ, List.setIfInBounds_toArray, List.set_cons_zero, List.set_cons_succ]
      refine wpAnyH_ready (rs := [5]) (by kernel_rfl) (by simp) (AllReadyH.cons (o := _) rfl (fun K hK => ?_) AllReadyH.nil)
      rw [if_pos (by kernel_rfl)]
      refine wp_store_blk 103 _ _ rfl (g + 1) 103 _ #[.pointer a6] (b1r.keep hB6) rfl rfl rfl size_tree (one_ptr _) ?_
      intro w10 hk10 ht10
      refine hK.out _ _ ⟨(ht10.blk (b0r.keep hB6) (by omega)).cell rfl, (ht10.blk (hm.keep hB6) (by omega)).cell rfl⟩ (fun _ => ?_)
      clear hK K
      try simp only [Act.put, List.getElem_toArray, List.getElem_cons_zero, List.getElem_cons_succ, List.setIfInBounds_toArray, List.set_cons_zero, List.set_cons_succ]
      refine wpAnyH_done (by kernel_rfl) ?_ _
      refine NoPanic.normal ?_
      go_wp2
      refine bodyPost_ret (results_tr rfl rfl hk10) rfl ?_
      have hBg : Below g w w6 := (hB1.trans (hB1r.mono hs1)).trans (hB6.mono (by have := hB1r.size; omega))
      exact ⟨a6, rfl, ht6.var (b1r.keep hB6) ht10, hBg.trans (ht10.below (by omega) (by have := hBg.size; omega))⟩
end
end Go.Proofs.Ytfcfffilfmbpeaa
