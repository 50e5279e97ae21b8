/- Layer 15: the bytes of any message, and the message of any bytes, are the document's, or refused (NetPacks). No condition. -/
import Derived.Test.YtallbhdfbkkjkaaNetAr
import Derived.Test.YtallbhdfbkkjkaaNetJ
set_option linter.all false
namespace Go.Proofs.Ytallbhdfbkkjkaa
open Go.ChangeShapes Go.WideShapes Go.ChangeAt Go.RowKit
namespace Net
/-- A message's seven cells. -/
abbrev K7 (w : World) (b : Nat) (m : Ms) (v : Value) : Prop := w.cell? ⟨b, 0, none⟩ = some (.int .i64 m.fr) ∧ w.cell? ⟨b, 1, none⟩ = some (.int .i64 m.to) ∧ w.cell? ⟨b, 2, none⟩ = some (.int .i64 m.k) ∧ w.cell? ⟨b, 3, none⟩ = some (.int .i64 m.ep) ∧ w.cell? ⟨b, 4, none⟩ = some (.int .i64 m.sq) ∧ w.cell? ⟨b, 5, none⟩ = some (.int .i64 m.ac) ∧ w.cell? ⟨b, 6, none⟩ = some v
theorem K7.keep {w w' : World} {b : Nat} {m : Ms} {v : Value} (h : K7 w b m v) (hb : Below w.heap.size w w') : K7 w' b m v := by
  obtain ⟨c0, c1, c2, c3, c4, c5, c6⟩ := h
  exact ⟨(hb.cell (cell_lt c0)).trans c0, (hb.cell (cell_lt c1)).trans c1, (hb.cell (cell_lt c2)).trans c2, (hb.cell (cell_lt c3)).trans c3, (hb.cell (cell_lt c4)).trans c4, (hb.cell (cell_lt c5)).trans c5, (hb.cell (cell_lt c6)).trans c6⟩
theorem enters_S1 (vs : Array Value) (w : World) : (callFunc 13 vs).run Try.prog w = .ok (.enter 13 vs) w := by go_simp
theorem enters_S2 (vs : Array Value) (w : World) : (callFunc 14 vs).run Try.prog w = .ok (.enter 14 vs) w := by go_simp
theorem enters_S3 (vs : Array Value) (w : World) : (callFunc 15 vs).run Try.prog w = .ok (.enter 15 vs) w := by go_simp
theorem enters_S4 (vs : Array Value) (w : World) : (callFunc 16 vs).run Try.prog w = .ok (.enter 16 vs) w := by go_simp
section
variable (w : World)
set_option maxRecDepth 100000 in
set_option maxHeartbeats 8000000 in
theorem packs_walk (m : Ms) (X : Option Addr) (n c : Nat) (h : Mdt w m X n c) (A : Option Addr) (k d : Nat) (x : List UInt8) (hr : Bs w A k x) (hA : A = none → k = 0 ∧ d = 0) (hkd : k ≤ d) (hd : d ≤ 9223372036854775807) (hkb : k ≤ 140737488351300) :
    Calls Try.prog 3 #[.agg (ma m (.slice X n c)), .slice A k d] w fun e w' => e = .returned (.bool true) ∧ Below w.heap.size w w' := by
  have Hl := Lib.hid hr.len
  have hxl : x.length ≤ 140737488351300 := by have := Hl.out; omega
  have hac := Blk.new w 24 (ma m (.slice X n c)) rfl
  obtain ⟨w1, hw1⟩ : ∃ w1, w.alloc (.cells (ma m (.slice X n c)) 24) = w1 := ⟨_, rfl⟩
  have hs1 : w1.heap.size = w.heap.size + 1 := by rw [← hw1]; simp
  have hb1 : Below w.heap.size w w1 := by rw [← hw1]; exact (Below.refl _ _).alloc (Nat.le_refl _) _
  rw [hw1] at hac
  have h1 := h.below hb1
  have K1 : K7 w1 w.heap.size m (.slice X n c) := ma_blk hac
  obtain ⟨d0, d1, d2, d3, d4, d5, d6⟩ := K1
  obtain ⟨y, hy⟩ : ∃ y, packL m = y := ⟨_, rfl⟩
  obtain ⟨yn, hyn⟩ : ∃ n, y.length = n := ⟨_, rfl⟩
  obtain ⟨u, hu⟩ : ∃ u, unV x = u := ⟨_, rfl⟩
  obtain ⟨pe, hpe⟩ : ∃ e, packE m = e := ⟨_, rfl⟩
  obtain ⟨ue, hue⟩ : ∃ e, unE x = e := ⟨_, rfl⟩
  have Hy := Lib.hid hy
  have Hyn := Lib.hid hyn
  have Hu := Lib.hid hu
  have Hpe := Lib.hid hpe
  have Hue := Lib.hid hue
  clear hy hyn hu hpe hue hac
  go_enter Try.func3, Try.ntmps3
  go_wp2_with fail
  refine (pack_ w1 m X n c h1).mono ?_
  rw [Hpe.out, Hy.out, Hyn.out]
  rintro e w2 ⟨v2, rfl, hown2, hb2⟩
  obtain ⟨A2, c2, rfl, hc2, hm2, ha2⟩ := own_form hown2
  have hB2 := below_step hb1 hb2 (by omega)
  have K2 : K7 w2 w.heap.size m (.slice X n c) := K7.keep ⟨d0, d1, d2, d3, d4, d5, d6⟩ hb2
  have h2 := h.below hB2
  clear d0 d1 d2 d3 d4 d5 d6 hb2
  obtain ⟨d0, d1, d2, d3, d4, d5, d6⟩ := K2
  go_wp2_with fail
  refine (rpack_ w2 m X n c h2).mono ?_
  rw [Hpe.out, Hy.out, Hyn.out]
  rintro e w3 ⟨v3, rfl, hown3, hb3⟩
  obtain ⟨A3, c3, rfl, hc3, hm3, ha3⟩ := own_form hown3
  have hB3 := below_step hB2 hb3 (by omega)
  have K3 : K7 w3 w.heap.size m (.slice X n c) := K7.keep ⟨d0, d1, d2, d3, d4, d5, d6⟩ hb3
  have hbs2 := (bs_own hown2).below hb3
  have hbs3 := bs_own hown3
  clear d0 d1 d2 d3 d4 d5 d6 hb3 h2 hown2 hown3
  go_wp2_with fail
  refine (unpack_ w3 A k d x (hr.below hB3) hA hkd hd hkb).mono ?_
  rintro e w4 hU
  obtain ⟨Y, p, q, rfl, hM4, -, hb4⟩ := hU.got hxl
  rw [Hu.out] at hM4
  rw [Hue.out, Hu.out]
  have hB4 := below_step hB3 hb4 (by omega)
  have hm5 : Blk (w4.alloc (.cells (ma u (.slice Y p q)) 24)) w4.heap.size 24 (ma u (.slice Y p q)) := Blk.new w4 _ _ rfl
  have hb5 : Below w4.heap.size w4 (w4.alloc (.cells (ma u (.slice Y p q)) 24)) := (Below.refl _ _).alloc (Nat.le_refl _) _
  have hM5 := hM4.below hb5
  have hB5 := below_step hB4 hb5 (by omega)
  have K5 := (K3.keep hb4).keep hb5
  have hbs2' := (hbs2.below hb4).below hb5
  have hbs3' := (hbs3.below hb4).below hb5
  have L5 : K7 _ w4.heap.size u (.slice Y p q) := ma_blk hm5
  have hrb := hr.below hB5
  have hUn := runpack_ (w4.alloc (.cells (ma u (.slice Y p q)) 24)) A k d x hrb hA hkd hd hkb
  clear hU hM4 hb4 hb5 hbs2 hbs3 hm5 K3 hB4
  go_wp2_with fail
  refine hUn.mono ?_
  rintro e w6 hU
  obtain ⟨Y2, p2, q2, rfl, hM6, -, hb6⟩ := hU.got hxl
  rw [Hu.out] at hM6
  rw [Hue.out, Hu.out]
  have hB6 := below_step hB5 hb6 (by omega)
  have hm7 : Blk (w6.alloc (.cells (ma u (.slice Y2 p2 q2)) 24)) w6.heap.size 24 (ma u (.slice Y2 p2 q2)) := Blk.new w6 _ _ rfl
  have hb7 : Below w6.heap.size w6 (w6.alloc (.cells (ma u (.slice Y2 p2 q2)) 24)) := (Below.refl _ _).alloc (Nat.le_refl _) _
  have hB7 := below_step hB6 hb7 (by omega)
  have K8 := (K5.keep hb6).keep hb7
  have L8 := (L5.keep hb6).keep hb7
  have M8 : K7 _ w6.heap.size u (.slice Y2 p2 q2) := ma_blk hm7
  have hbs2 := (hbs2'.below hb6).below hb7
  have hbs3 := (hbs3'.below hb6).below hb7
  have hMu := (hM5.below hb6).below hb7
  have hMv := hM6.below hb7
  have hMm := h.below hB7
  obtain ⟨g5, hg5⟩ : ∃ g, w4.heap.size = g := ⟨_, rfl⟩
  obtain ⟨g7, hg7⟩ : ∃ g, w6.heap.size = g := ⟨_, rfl⟩
  rw [hg5] at L8
  rw [hg7] at M8
  clear hU hM6 hb6 hb7 hbs2' hbs3' hm7 K5 L5 hB5 hB6 hM5 hrb hUn
  go_wp2_with fail
  obtain ⟨w8, hw8⟩ : ∃ w8, w6.alloc (.cells (ma u (.slice Y2 p2 q2)) 24) = w8 := ⟨_, rfl⟩
  rw [hw8] at K8 L8 M8 hbs2 hbs3 hMu hMv hMm hB7
  rw [hw8]
  obtain ⟨r, hrr⟩ : ∃ r, decide (m = u) = r := ⟨_, rfl⟩
  have HB0 : Below w8.heap.size w8 w8.drew := ⟨rfl, rfl, rfl, Nat.le_refl _, fun _ _ => rfl⟩
  have HS := Lib.hid (show ∀ W, Below w8.heap.size w8 W → (fun w' => w'.cell? ⟨w.heap.size, 0, none⟩ = some (.int .i64 m.fr) ∧ w'.cell? ⟨w.heap.size, 1, none⟩ = some (.int .i64 m.to) ∧ w'.cell? ⟨w.heap.size, 2, none⟩ = some (.int .i64 m.k) ∧ w'.cell? ⟨w.heap.size, 3, none⟩ = some (.int .i64 m.ep) ∧ w'.cell? ⟨w.heap.size, 4, none⟩ = some (.int .i64 m.sq) ∧ w'.cell? ⟨w.heap.size, 5, none⟩ = some (.int .i64 m.ac) ∧ w'.cell? ⟨w.heap.size, 6, none⟩ = some (.slice X n c) ∧ w'.cell? ⟨g5, 0, none⟩ = some (.int .i64 u.fr) ∧ w'.cell? ⟨g5, 1, none⟩ = some (.int .i64 u.to) ∧ w'.cell? ⟨g5, 2, none⟩ = some (.int .i64 u.k) ∧ w'.cell? ⟨g5, 3, none⟩ = some (.int .i64 u.ep) ∧ w'.cell? ⟨g5, 4, none⟩ = some (.int .i64 u.sq) ∧ w'.cell? ⟨g5, 5, none⟩ = some (.int .i64 u.ac) ∧ w'.cell? ⟨g5, 6, none⟩ = some (.slice Y p q) ∧ w'.cell? ⟨g7, 0, none⟩ = some (.int .i64 u.fr) ∧ w'.cell? ⟨g7, 1, none⟩ = some (.int .i64 u.to) ∧ w'.cell? ⟨g7, 2, none⟩ = some (.int .i64 u.k) ∧ w'.cell? ⟨g7, 3, none⟩ = some (.int .i64 u.ep) ∧ w'.cell? ⟨g7, 4, none⟩ = some (.int .i64 u.sq) ∧ w'.cell? ⟨g7, 5, none⟩ = some (.int .i64 u.ac) ∧ w'.cell? ⟨g7, 6, none⟩ = some (.slice Y2 p2 q2)) W from fun W hb => by
    obtain ⟨a0, a1, a2, a3, a4, a5, a6⟩ := K8.keep hb
    obtain ⟨b0, b1, b2, b3, b4, b5, b6⟩ := L8.keep hb
    obtain ⟨e0, e1, e2, e3, e4, e5, e6⟩ := M8.keep hb
    exact ⟨a0, a1, a2, a3, a4, a5, a6, b0, b1, b2, b3, b4, b5, b6, e0, e1, e2, e3, e4, e5, e6⟩)
  have C2 : ∀ W, Below w8.heap.size w8 W → Calls Try.prog 14 #[.agg (ma u (.slice Y p q)), .agg (ma u (.slice Y2 p2 q2))] W fun e w' => e = .returned (.bool true) ∧ Below W.heap.size W w' := fun W hb => by
    have := rsame_ W u u Y Y2 p q p2 q2 (hMu.below hb) (hMv.below hb)
    rwa [decide_eq_true rfl] at this
  have C3 : ∀ W, Below w8.heap.size w8 W → Calls Try.prog 15 #[.agg (ma m (.slice X n c)), .agg (ma u (.slice Y p q))] W fun e w' => e = .returned (.bool r) ∧ Below W.heap.size W w' := fun W hb => by
    have := nsame_ W m u X Y n c p q (hMm.below hb) (hMu.below hb)
    rwa [hrr] at this
  have C4 : ∀ W, Below w8.heap.size w8 W → Calls Try.prog 14 #[.agg (ma m (.slice X n c)), .agg (ma u (.slice Y2 p2 q2))] W fun e w' => e = .returned (.bool r) ∧ Below W.heap.size W w' := fun W hb => by
    have := rsame_ W m u X Y2 n c p2 q2 (hMm.below hb) (hMv.below hb)
    rwa [hrr] at this
  have C5 : ∀ W, Below w8.heap.size w8 W → Calls Try.prog 15 #[.agg (ma m (.slice X n c)), .agg (ma m (.slice X n c))] W fun e w' => e = .returned (.bool true) ∧ Below W.heap.size W w' := fun W hb => by
    have := nsame_ W m m X X n c n c (hMm.below hb) (hMm.below hb)
    rwa [decide_eq_true rfl] at this
  have C6 : ∀ W, Below w8.heap.size w8 W → Calls Try.prog 16 #[] W fun e w' => e = .returned (.bool true) ∧ Below W.heap.size W w' := fun W _ => alive_ W
  clear hrr hw8 hs1 hb1 h1 hw1 K8 L8 M8 hMu hMv hMm
  refine wp_region_noPanic ?_
  refine wp_region_held_drew (S := (fun w' => w'.cell? ⟨w.heap.size, 0, none⟩ = some (.int .i64 m.fr) ∧ w'.cell? ⟨w.heap.size, 1, none⟩ = some (.int .i64 m.to) ∧ w'.cell? ⟨w.heap.size, 2, none⟩ = some (.int .i64 m.k) ∧ w'.cell? ⟨w.heap.size, 3, none⟩ = some (.int .i64 m.ep) ∧ w'.cell? ⟨w.heap.size, 4, none⟩ = some (.int .i64 m.sq) ∧ w'.cell? ⟨w.heap.size, 5, none⟩ = some (.int .i64 m.ac) ∧ w'.cell? ⟨w.heap.size, 6, none⟩ = some (.slice X n c) ∧ w'.cell? ⟨g5, 0, none⟩ = some (.int .i64 u.fr) ∧ w'.cell? ⟨g5, 1, none⟩ = some (.int .i64 u.to) ∧ w'.cell? ⟨g5, 2, none⟩ = some (.int .i64 u.k) ∧ w'.cell? ⟨g5, 3, none⟩ = some (.int .i64 u.ep) ∧ w'.cell? ⟨g5, 4, none⟩ = some (.int .i64 u.sq) ∧ w'.cell? ⟨g5, 5, none⟩ = some (.int .i64 u.ac) ∧ w'.cell? ⟨g5, 6, none⟩ = some (.slice Y p q) ∧ w'.cell? ⟨g7, 0, none⟩ = some (.int .i64 u.fr) ∧ w'.cell? ⟨g7, 1, none⟩ = some (.int .i64 u.to) ∧ w'.cell? ⟨g7, 2, none⟩ = some (.int .i64 u.k) ∧ w'.cell? ⟨g7, 3, none⟩ = some (.int .i64 u.ep) ∧ w'.cell? ⟨g7, 4, none⟩ = some (.int .i64 u.sq) ∧ w'.cell? ⟨g7, 5, none⟩ = some (.int .i64 u.ac) ∧ w'.cell? ⟨g7, 6, none⟩ = some (.slice Y2 p2 q2))) (by kernel_rfl) (HS.out _ HB0) (fun _ => ?_)
  refine wpAnyH_take (i := 0) (oi := _) (v := ?_) rfl (by kernel_rfl) (by kernel_rfl) (by kernel_rfl) (fun _ _ _ h => h) (Or.inl ⟨by kernel_rfl, ?_⟩) (HS.out _ HB0) ?_
  rotate_left
  · (rintro w ⟨a0, a1, a2, a3, a4, a5, a6, b0, b1, b2, b3, b4, b5, b6, e0, e1, e2, e3, e4, e5, e6⟩; go_simp; (first | done | rfl))
  try simp only [Act.put, List.getElem_toArray, List.getElem_cons_zero, List.getElem_cons_succ, List.setIfInBounds_toArray, List.set_cons_zero, List.set_cons_succ]
  refine wpAnyH_take (i := 1) (oi := _) (v := ?_) rfl (by kernel_rfl) (by kernel_rfl) (by kernel_rfl) (fun _ _ _ h => h) (Or.inl ⟨by kernel_rfl, ?_⟩) (HS.out _ HB0) ?_
  rotate_left
  · (rintro w ⟨a0, a1, a2, a3, a4, a5, a6, b0, b1, b2, b3, b4, b5, b6, e0, e1, e2, e3, e4, e5, e6⟩; go_simp; (first | done | rfl))
  try simp only [Act.put, List.getElem_toArray, List.getElem_cons_zero, List.getElem_cons_succ, List.setIfInBounds_toArray, List.set_cons_zero, List.set_cons_succ]
  refine wpAnyH_ready (rs := [2]) (by kernel_rfl) (by simp) (AllReadyH.cons (o := _) rfl (fun K hK => ?_) AllReadyH.nil)
  rw [if_pos (by kernel_rfl)]
  refine wp_fn 13 _ _ rfl _ rfl enters_S1 (same_ A2 A3 yn c2 yn c3 y y _ hbs2.drew hbs3.drew (fun h => (ha2 h).1) (fun h => (ha3 h).1)) ?_
  rw [beq_self_eq_true]
  rintro e wa ⟨rfl, rfl⟩
  refine ⟨_, rfl, ?_⟩
  refine hK.out _ _ (HS.out _ HB0) (fun _ => ?_)
  clear hK K
  try simp only [Act.put, List.getElem_toArray, List.getElem_cons_zero, List.getElem_cons_succ, List.setIfInBounds_toArray, List.set_cons_zero, List.set_cons_succ]
  refine wpAnyH_take (i := 3) (oi := _) (v := ?_) rfl (by kernel_rfl) (by kernel_rfl) (by kernel_rfl) (fun _ _ _ h => h) (Or.inl ⟨by kernel_rfl, ?_⟩) (HS.out _ HB0) ?_
  rotate_left
  · (rintro w ⟨a0, a1, a2, a3, a4, a5, a6, b0, b1, b2, b3, b4, b5, b6, e0, e1, e2, e3, e4, e5, e6⟩; go_simp; (first | done | rfl))
  try simp only [Act.put, List.getElem_toArray, List.getElem_cons_zero, List.getElem_cons_succ, List.setIfInBounds_toArray, List.set_cons_zero, List.set_cons_succ]
  refine wpAnyH_take (i := 4) (oi := _) (v := ?_) rfl (by kernel_rfl) (by kernel_rfl) (by kernel_rfl) (fun _ _ _ h => h) (Or.inl ⟨by kernel_rfl, ?_⟩) (HS.out _ HB0) ?_
  rotate_left
  · (rintro w ⟨a0, a1, a2, a3, a4, a5, a6, b0, b1, b2, b3, b4, b5, b6, e0, e1, e2, e3, e4, e5, e6⟩; go_simp; (first | done | rfl))
  try simp only [Act.put, List.getElem_toArray, List.getElem_cons_zero, List.getElem_cons_succ, List.setIfInBounds_toArray, List.set_cons_zero, List.set_cons_succ]
  refine wpAnyH_take (i := 5) (oi := _) (v := ?_) rfl (by kernel_rfl) (by kernel_rfl) (by kernel_rfl) (fun _ _ _ h => h) (Or.inl ⟨by kernel_rfl, ?_⟩) (HS.out _ HB0) ?_
  rotate_left
  · (rintro w ⟨a0, a1, a2, a3, a4, a5, a6, b0, b1, b2, b3, b4, b5, b6, e0, e1, e2, e3, e4, e5, e6⟩; go_simp; (first | done | rfl))
  try simp only [Act.put, List.getElem_toArray, List.getElem_cons_zero, List.getElem_cons_succ, List.setIfInBounds_toArray, List.set_cons_zero, List.set_cons_succ]
  refine wpAnyH_take (i := 6) (oi := _) (v := ?_) rfl (by kernel_rfl) (by kernel_rfl) (by kernel_rfl) (fun _ _ _ h => h) (Or.inl ⟨by kernel_rfl, ?_⟩) (HS.out _ HB0) ?_
  rotate_left
  · (rintro w ⟨a0, a1, a2, a3, a4, a5, a6, b0, b1, b2, b3, b4, b5, b6, e0, e1, e2, e3, e4, e5, e6⟩; go_simp; (first | done | rfl))
  try simp only [Act.put, List.getElem_toArray, List.getElem_cons_zero, List.getElem_cons_succ, List.setIfInBounds_toArray, List.set_cons_zero, List.set_cons_succ]
  refine wpAnyH_take (i := 7) (oi := _) (v := ?_) rfl (by kernel_rfl) (by kernel_rfl) (by kernel_rfl) (fun _ _ _ h => h) (Or.inl ⟨by kernel_rfl, ?_⟩) (HS.out _ HB0) ?_
  rotate_left
  · (rintro w ⟨a0, a1, a2, a3, a4, a5, a6, b0, b1, b2, b3, b4, b5, b6, e0, e1, e2, e3, e4, e5, e6⟩; go_simp; (first | done | rfl))
  try simp only [Act.put, List.getElem_toArray, List.getElem_cons_zero, List.getElem_cons_succ, List.setIfInBounds_toArray, List.set_cons_zero, List.set_cons_succ]
  refine wpAnyH_take (i := 8) (oi := _) (v := ?_) rfl (by kernel_rfl) (by kernel_rfl) (by kernel_rfl) (fun _ _ _ h => h) (Or.inl ⟨by kernel_rfl, ?_⟩) (HS.out _ HB0) ?_
  rotate_left
  · (rintro w ⟨a0, a1, a2, a3, a4, a5, a6, b0, b1, b2, b3, b4, b5, b6, e0, e1, e2, e3, e4, e5, e6⟩; go_simp; (first | done | rfl))
  try simp only [Act.put, List.getElem_toArray, List.getElem_cons_zero, List.getElem_cons_succ, List.setIfInBounds_toArray, List.set_cons_zero, List.set_cons_succ]
  refine wpAnyH_take (i := 9) (oi := _) (v := ?_) rfl (by kernel_rfl) (by kernel_rfl) (by kernel_rfl) (fun _ _ _ h => h) (Or.inl ⟨by kernel_rfl, ?_⟩) (HS.out _ HB0) ?_
  rotate_left
  · (rintro w ⟨a0, a1, a2, a3, a4, a5, a6, b0, b1, b2, b3, b4, b5, b6, e0, e1, e2, e3, e4, e5, e6⟩; go_simp; (first | done | rfl))
  try simp only [Act.put, List.getElem_toArray, List.getElem_cons_zero, List.getElem_cons_succ, List.setIfInBounds_toArray, List.set_cons_zero, List.set_cons_succ]
  refine wpAnyH_take (i := 10) (oi := _) (v := ?_) rfl (by kernel_rfl) (by kernel_rfl) (by kernel_rfl) (fun _ _ _ h => h) (Or.inl ⟨by kernel_rfl, ?_⟩) (HS.out _ HB0) ?_
  rotate_left
  · (rintro w ⟨a0, a1, a2, a3, a4, a5, a6, b0, b1, b2, b3, b4, b5, b6, e0, e1, e2, e3, e4, e5, e6⟩; go_simp; (first | done | rfl))
  try simp only [Act.put, List.getElem_toArray, List.getElem_cons_zero, List.getElem_cons_succ, List.setIfInBounds_toArray, List.set_cons_zero, List.set_cons_succ]
  refine wpAnyH_ready (rs := [11]) (by kernel_rfl) (by simp) (AllReadyH.cons (o := _) rfl (fun K hK => ?_) AllReadyH.nil)
  rw [if_pos (by kernel_rfl)]
  refine wp_fn 14 _ _ rfl _ rfl enters_S2 (C2 _ HB0) ?_
  rintro e wb1 ⟨rfl, hc1⟩
  have HB1 : Below w8.heap.size w8 wb1 := below_step HB0 hc1 (Nat.le_refl _)
  refine ⟨_, rfl, ?_⟩
  refine hK.out _ _ (HS.out _ HB1) (fun _ => ?_)
  clear hK K
  try simp only [Act.put, List.getElem_toArray, List.getElem_cons_zero, List.getElem_cons_succ, List.setIfInBounds_toArray, List.set_cons_zero, List.set_cons_succ]
  refine wpAnyH_take (i := 12) (oi := _) (v := ?_) rfl (by kernel_rfl) (by kernel_rfl) (by kernel_rfl) (fun _ _ _ h => h) (Or.inl ⟨by kernel_rfl, ?_⟩) (HS.out _ HB1) ?_
  rotate_left
  · (rintro w ⟨a0, a1, a2, a3, a4, a5, a6, b0, b1, b2, b3, b4, b5, b6, e0, e1, e2, e3, e4, e5, e6⟩; go_simp; (first | done | rfl))
  try simp only [Act.put, List.getElem_toArray, List.getElem_cons_zero, List.getElem_cons_succ, List.setIfInBounds_toArray, List.set_cons_zero, List.set_cons_succ]
  refine wpAnyH_take (i := 13) (oi := _) (v := ?_) rfl (by kernel_rfl) (by kernel_rfl) (by kernel_rfl) (fun _ _ _ h => h) (Or.inl ⟨by kernel_rfl, ?_⟩) (HS.out _ HB1) ?_
  rotate_left
  · (rintro w ⟨a0, a1, a2, a3, a4, a5, a6, b0, b1, b2, b3, b4, b5, b6, e0, e1, e2, e3, e4, e5, e6⟩; go_simp; (first | done | rfl))
  try simp only [Act.put, List.getElem_toArray, List.getElem_cons_zero, List.getElem_cons_succ, List.setIfInBounds_toArray, List.set_cons_zero, List.set_cons_succ]
  refine wpAnyH_take (i := 14) (oi := _) (v := ?_) rfl (by kernel_rfl) (by kernel_rfl) (by kernel_rfl) (fun _ _ _ h => h) (Or.inl ⟨by kernel_rfl, ?_⟩) (HS.out _ HB1) ?_
  rotate_left
  · (rintro w ⟨a0, a1, a2, a3, a4, a5, a6, b0, b1, b2, b3, b4, b5, b6, e0, e1, e2, e3, e4, e5, e6⟩; go_simp; (first | done | rfl))
  try simp only [Act.put, List.getElem_toArray, List.getElem_cons_zero, List.getElem_cons_succ, List.setIfInBounds_toArray, List.set_cons_zero, List.set_cons_succ]
  refine wpAnyH_take (i := 15) (oi := _) (v := ?_) rfl (by kernel_rfl) (by kernel_rfl) (by kernel_rfl) (fun _ _ _ h => h) (Or.inl ⟨by kernel_rfl, ?_⟩) (HS.out _ HB1) ?_
  rotate_left
  · (rintro w ⟨a0, a1, a2, a3, a4, a5, a6, b0, b1, b2, b3, b4, b5, b6, e0, e1, e2, e3, e4, e5, e6⟩; go_simp; (first | done | rfl))
  try simp only [Act.put, List.getElem_toArray, List.getElem_cons_zero, List.getElem_cons_succ, List.setIfInBounds_toArray, List.set_cons_zero, List.set_cons_succ]
  refine wpAnyH_take (i := 16) (oi := _) (v := ?_) rfl (by kernel_rfl) (by kernel_rfl) (by kernel_rfl) (fun _ _ _ h => h) (Or.inl ⟨by kernel_rfl, ?_⟩) (HS.out _ HB1) ?_
  rotate_left
  · (rintro w ⟨a0, a1, a2, a3, a4, a5, a6, b0, b1, b2, b3, b4, b5, b6, e0, e1, e2, e3, e4, e5, e6⟩; go_simp; (first | done | rfl))
  try simp only [Act.put, List.getElem_toArray, List.getElem_cons_zero, List.getElem_cons_succ, List.setIfInBounds_toArray, List.set_cons_zero, List.set_cons_succ]
  refine wpAnyH_take (i := 17) (oi := _) (v := ?_) rfl (by kernel_rfl) (by kernel_rfl) (by kernel_rfl) (fun _ _ _ h => h) (Or.inl ⟨by kernel_rfl, ?_⟩) (HS.out _ HB1) ?_
  rotate_left
  · (rintro w ⟨a0, a1, a2, a3, a4, a5, a6, b0, b1, b2, b3, b4, b5, b6, e0, e1, e2, e3, e4, e5, e6⟩; go_simp; (first | done | rfl))
  try simp only [Act.put, List.getElem_toArray, List.getElem_cons_zero, List.getElem_cons_succ, List.setIfInBounds_toArray, List.set_cons_zero, List.set_cons_succ]
  refine wpAnyH_take (i := 18) (oi := _) (v := ?_) rfl (by kernel_rfl) (by kernel_rfl) (by kernel_rfl) (fun _ _ _ h => h) (Or.inl ⟨by kernel_rfl, ?_⟩) (HS.out _ HB1) ?_
  rotate_left
  · (rintro w ⟨a0, a1, a2, a3, a4, a5, a6, b0, b1, b2, b3, b4, b5, b6, e0, e1, e2, e3, e4, e5, e6⟩; go_simp; (first | done | rfl))
  try simp only [Act.put, List.getElem_toArray, List.getElem_cons_zero, List.getElem_cons_succ, List.setIfInBounds_toArray, List.set_cons_zero, List.set_cons_succ]
  refine wpAnyH_take (i := 19) (oi := _) (v := ?_) rfl (by kernel_rfl) (by kernel_rfl) (by kernel_rfl) (fun _ _ _ h => h) (Or.inl ⟨by kernel_rfl, ?_⟩) (HS.out _ HB1) ?_
  rotate_left
  · (rintro w ⟨a0, a1, a2, a3, a4, a5, a6, b0, b1, b2, b3, b4, b5, b6, e0, e1, e2, e3, e4, e5, e6⟩; go_simp; (first | done | rfl))
  try simp only [Act.put, List.getElem_toArray, List.getElem_cons_zero, List.getElem_cons_succ, List.setIfInBounds_toArray, List.set_cons_zero, List.set_cons_succ]
  refine wpAnyH_take (i := 20) (oi := _) (v := ?_) rfl (by kernel_rfl) (by kernel_rfl) (by kernel_rfl) (fun _ _ _ h => h) (Or.inl ⟨by kernel_rfl, ?_⟩) (HS.out _ HB1) ?_
  rotate_left
  · (rintro w ⟨a0, a1, a2, a3, a4, a5, a6, b0, b1, b2, b3, b4, b5, b6, e0, e1, e2, e3, e4, e5, e6⟩; go_simp; (first | done | rfl))
  try simp only [Act.put, List.getElem_toArray, List.getElem_cons_zero, List.getElem_cons_succ, List.setIfInBounds_toArray, List.set_cons_zero, List.set_cons_succ]
  refine wpAnyH_take (i := 22) (oi := _) (v := ?_) rfl (by kernel_rfl) (by kernel_rfl) (by kernel_rfl) (fun _ _ _ h => h) (Or.inl ⟨by kernel_rfl, ?_⟩) (HS.out _ HB1) ?_
  rotate_left
  · (rintro w ⟨a0, a1, a2, a3, a4, a5, a6, b0, b1, b2, b3, b4, b5, b6, e0, e1, e2, e3, e4, e5, e6⟩; go_simp; (first | done | rfl))
  try simp only [Act.put, List.getElem_toArray, List.getElem_cons_zero, List.getElem_cons_succ, List.setIfInBounds_toArray, List.set_cons_zero, List.set_cons_succ]
  refine wpAnyH_take (i := 23) (oi := _) (v := ?_) rfl (by kernel_rfl) (by kernel_rfl) (by kernel_rfl) (fun _ _ _ h => h) (Or.inl ⟨by kernel_rfl, ?_⟩) (HS.out _ HB1) ?_
  rotate_left
  · (rintro w ⟨a0, a1, a2, a3, a4, a5, a6, b0, b1, b2, b3, b4, b5, b6, e0, e1, e2, e3, e4, e5, e6⟩; go_simp; (first | done | rfl))
  try simp only [Act.put, List.getElem_toArray, List.getElem_cons_zero, List.getElem_cons_succ, List.setIfInBounds_toArray, List.set_cons_zero, List.set_cons_succ]
  refine wpAnyH_ready (rs := [21]) (by kernel_rfl) (by simp) (AllReadyH.cons (o := _) rfl (fun K hK => ?_) AllReadyH.nil)
  rw [if_pos (by kernel_rfl)]
  refine wp_fn 15 _ _ rfl _ rfl enters_S3 (C3 _ HB1) ?_
  rintro e wb2 ⟨rfl, hc2⟩
  have HB2 : Below w8.heap.size w8 wb2 := below_step HB1 hc2 (Nat.le_refl _)
  refine ⟨_, rfl, ?_⟩
  refine hK.out _ _ (HS.out _ HB2) (fun _ => ?_)
  clear hK K
  try simp only [Act.put, List.getElem_toArray, List.getElem_cons_zero, List.getElem_cons_succ, List.setIfInBounds_toArray, List.set_cons_zero, List.set_cons_succ]
  refine wpAnyH_ready (rs := [24]) (by kernel_rfl) (by simp) (AllReadyH.cons (o := _) rfl (fun K hK => ?_) AllReadyH.nil)
  rw [if_pos (by kernel_rfl)]
  refine wp_fn 14 _ _ rfl _ rfl enters_S2 (C4 _ HB2) ?_
  rintro e wb3 ⟨rfl, hc3⟩
  have HB3 : Below w8.heap.size w8 wb3 := below_step HB2 hc3 (Nat.le_refl _)
  refine ⟨_, rfl, ?_⟩
  refine hK.out _ _ (HS.out _ HB3) (fun _ => ?_)
  clear hK K
  try simp only [Act.put, List.getElem_toArray, List.getElem_cons_zero, List.getElem_cons_succ, List.setIfInBounds_toArray, List.set_cons_zero, List.set_cons_succ]
  refine wpAnyH_take (i := 25) (oi := _) (v := ?_) rfl (by kernel_rfl) (by kernel_rfl) (by kernel_rfl) (fun _ _ _ h => h) (Or.inl ⟨by kernel_rfl, ?_⟩) (HS.out _ HB3) ?_
  rotate_left
  · (rintro w ⟨a0, a1, a2, a3, a4, a5, a6, b0, b1, b2, b3, b4, b5, b6, e0, e1, e2, e3, e4, e5, e6⟩; go_simp; (first | done | rfl))
  try simp only [Act.put, List.getElem_toArray, List.getElem_cons_zero, List.getElem_cons_succ, List.setIfInBounds_toArray, List.set_cons_zero, List.set_cons_succ]
  refine wpAnyH_take (i := 26) (oi := _) (v := ?_) rfl (by kernel_rfl) (by kernel_rfl) (by kernel_rfl) (fun _ _ _ h => h) (Or.inl ⟨by kernel_rfl, ?_⟩) (HS.out _ HB3) ?_
  rotate_left
  · (rintro w ⟨a0, a1, a2, a3, a4, a5, a6, b0, b1, b2, b3, b4, b5, b6, e0, e1, e2, e3, e4, e5, e6⟩; go_simp; (first | done | rfl))
  try simp only [Act.put, List.getElem_toArray, List.getElem_cons_zero, List.getElem_cons_succ, List.setIfInBounds_toArray, List.set_cons_zero, List.set_cons_succ]
  refine wpAnyH_take (i := 27) (oi := _) (v := ?_) rfl (by kernel_rfl) (by kernel_rfl) (by kernel_rfl) (fun _ _ _ h => h) (Or.inl ⟨by kernel_rfl, ?_⟩) (HS.out _ HB3) ?_
  rotate_left
  · (rintro w ⟨a0, a1, a2, a3, a4, a5, a6, b0, b1, b2, b3, b4, b5, b6, e0, e1, e2, e3, e4, e5, e6⟩; go_simp; (first | done | rfl))
  try simp only [Act.put, List.getElem_toArray, List.getElem_cons_zero, List.getElem_cons_succ, List.setIfInBounds_toArray, List.set_cons_zero, List.set_cons_succ]
  refine wpAnyH_take (i := 28) (oi := _) (v := ?_) rfl (by kernel_rfl) (by kernel_rfl) (by kernel_rfl) (fun _ _ _ h => h) (Or.inl ⟨by kernel_rfl, ?_⟩) (HS.out _ HB3) ?_
  rotate_left
  · (rintro w ⟨a0, a1, a2, a3, a4, a5, a6, b0, b1, b2, b3, b4, b5, b6, e0, e1, e2, e3, e4, e5, e6⟩; go_simp; (first | done | rfl))
  try simp only [Act.put, List.getElem_toArray, List.getElem_cons_zero, List.getElem_cons_succ, List.setIfInBounds_toArray, List.set_cons_zero, List.set_cons_succ]
  refine wpAnyH_take (i := 29) (oi := _) (v := ?_) rfl (by kernel_rfl) (by kernel_rfl) (by kernel_rfl) (fun _ _ _ h => h) (Or.inl ⟨by kernel_rfl, ?_⟩) (HS.out _ HB3) ?_
  rotate_left
  · (rintro w ⟨a0, a1, a2, a3, a4, a5, a6, b0, b1, b2, b3, b4, b5, b6, e0, e1, e2, e3, e4, e5, e6⟩; go_simp; (first | done | rfl))
  try simp only [Act.put, List.getElem_toArray, List.getElem_cons_zero, List.getElem_cons_succ, List.setIfInBounds_toArray, List.set_cons_zero, List.set_cons_succ]
  refine wpAnyH_ready (rs := [30]) (by kernel_rfl) (by simp) (AllReadyH.cons (o := _) rfl (fun K hK => ?_) AllReadyH.nil)
  rw [if_pos (by kernel_rfl)]
  refine wp_fn 15 _ _ rfl _ rfl enters_S3 (C5 _ HB3) ?_
  rintro e wb4 ⟨rfl, hc4⟩
  have HB4 : Below w8.heap.size w8 wb4 := below_step HB3 hc4 (Nat.le_refl _)
  refine ⟨_, rfl, ?_⟩
  refine hK.out _ _ (HS.out _ HB4) (fun _ => ?_)
  clear hK K
  try simp only [Act.put, List.getElem_toArray, List.getElem_cons_zero, List.getElem_cons_succ, List.setIfInBounds_toArray, List.set_cons_zero, List.set_cons_succ]
  refine wpAnyH_take (i := 31) (oi := _) (v := ?_) rfl (by kernel_rfl) (by kernel_rfl) (by kernel_rfl) (fun _ _ _ h => h) (Or.inl ⟨by kernel_rfl, ?_⟩) (HS.out _ HB4) ?_
  rotate_left
  · (rintro w ⟨a0, a1, a2, a3, a4, a5, a6, b0, b1, b2, b3, b4, b5, b6, e0, e1, e2, e3, e4, e5, e6⟩; go_simp; (first | done | rfl))
  try simp only [Act.put, List.getElem_toArray, List.getElem_cons_zero, List.getElem_cons_succ, List.setIfInBounds_toArray, List.set_cons_zero, List.set_cons_succ]
  refine wpAnyH_take (i := 32) (oi := _) (v := ?_) rfl (by kernel_rfl) (by kernel_rfl) (by kernel_rfl) (fun _ _ _ h => h) (Or.inl ⟨by kernel_rfl, ?_⟩) (HS.out _ HB4) ?_
  rotate_left
  · (rintro w ⟨a0, a1, a2, a3, a4, a5, a6, b0, b1, b2, b3, b4, b5, b6, e0, e1, e2, e3, e4, e5, e6⟩; go_simp; (first | done | rfl))
  try simp only [Act.put, List.getElem_toArray, List.getElem_cons_zero, List.getElem_cons_succ, List.setIfInBounds_toArray, List.set_cons_zero, List.set_cons_succ]
  refine wpAnyH_ready (rs := [33]) (by kernel_rfl) (by simp) (AllReadyH.cons (o := _) rfl (fun K hK => ?_) AllReadyH.nil)
  rw [if_pos (by kernel_rfl)]
  refine wp_fn 16 _ _ rfl _ rfl enters_S4 (C6 _ HB4) ?_
  rintro e wb5 ⟨rfl, hc5⟩
  have HB5 : Below w8.heap.size w8 wb5 := below_step HB4 hc5 (Nat.le_refl _)
  refine ⟨_, rfl, ?_⟩
  refine hK.out _ _ (HS.out _ HB5) (fun _ => ?_)
  clear hK K
  try simp only [Act.put, List.getElem_toArray, List.getElem_cons_zero, List.getElem_cons_succ, List.setIfInBounds_toArray, List.set_cons_zero, List.set_cons_succ]
  refine wpAnyH_take (i := 34) (oi := _) (v := ?_) rfl (by kernel_rfl) (by kernel_rfl) (by kernel_rfl) (fun _ _ _ h => h) (Or.inl ⟨by kernel_rfl, ?_⟩) (HS.out _ HB5) ?_
  rotate_left
  · (rintro w ⟨a0, a1, a2, a3, a4, a5, a6, b0, b1, b2, b3, b4, b5, b6, e0, e1, e2, e3, e4, e5, e6⟩; go_simp; (first | done | rfl))
  try simp only [Act.put, List.getElem_toArray, List.getElem_cons_zero, List.getElem_cons_succ, List.setIfInBounds_toArray, List.set_cons_zero, List.set_cons_succ]
  refine wpAnyH_take (i := 35) (oi := _) (v := ?_) rfl (by kernel_rfl) (by kernel_rfl) (by kernel_rfl) (fun _ _ _ h => h) (Or.inl ⟨by kernel_rfl, ?_⟩) (HS.out _ HB5) ?_
  rotate_left
  · (rintro w ⟨a0, a1, a2, a3, a4, a5, a6, b0, b1, b2, b3, b4, b5, b6, e0, e1, e2, e3, e4, e5, e6⟩; go_simp; (first | done | rfl))
  try simp only [Act.put, List.getElem_toArray, List.getElem_cons_zero, List.getElem_cons_succ, List.setIfInBounds_toArray, List.set_cons_zero, List.set_cons_succ]
  refine wpAnyH_done (by kernel_rfl) ?_ _
  refine NoPanic.normal ?_
  go_wp2
  go_ret
  exact ⟨rfl, below_step hB7 HB5 (Nat.le_refl _)⟩
end
end Net
open Net

set_option maxRecDepth 100000 in
theorem netPacks_lifted (os : Os) (started : os.Started) (H : Type) (enc : TypeId × Value → H) :
    ReturnsInHanded {} Try.checked os 3 .any (Rows.netPacksSpec.pre6 enc Try.prog Try.f3 Rows.netPacksRow.domain false) (Rows.netPacksSpec.post enc Try.prog Try.f3 false true false false) := by
  refine law_lifted (C := Try.checked) (tb := 4) own_ started (by kernel_rfl) Try.func3
    (ChangeSpec.witness6 (enc := enc) (C := Try.checked) false ⟨#[], #[.agg #[.int .i64 0, .int .i64 0, .int .i64 0, .int .i64 0, .int .i64 0, .int .i64 0, .slice none 0 0], .slice none 0 0], []⟩ 8 (by kernel_rfl) (by kernel_rfl) (by kernel_rfl) (by kernel_rfl))
    rfl rfl Try.underlying4 laidOut_ (by kernel_rfl) (fun ds h => by match ds, h with | [_, _], _ => rfl) ?_
  intro W base args ds p hval0 hA0 _ hsz0
  have hval : ∀ (j : Nat) t v, Try.f3.params[j]? = some t → args[j]? = some v → Value.okWide Try.prog W .any base t v := hval0
  have hA : DataW.TrodAll enc Try.prog W 0 (fun _ => true) true Try.f3.params.toList args.toList ds p := hA0
  have hsz : (DataW.weightsEach Try.prog Try.f3.params.toList ds).all (· ≤ reachBytes) = true := hsz0
  clear hval0 hA0 hsz0
  rw [Try.params3] at hA hval hsz
  obtain ⟨v0, v1, d0, d1, p0, p1, rfl, rfl, rfl, h0, h1⟩ := trodAll_two hA
  obtain ⟨cs0, a0, rfl, r0, b0⟩ := arg_struct ops_ms Try.underlying24 (hval 0 _ v0 rfl rfl) h0 (weight_at hsz (j := 0) rfl rfl)
  obtain ⟨A1, n1, c1, xs1, rfl, r1, b1⟩ := arg_slice ops_bytes Try.underlying22 (hval 1 _ v1 rfl rfl) h1 (weight_at hsz (j := 1) rfl rfl)
  obtain ⟨hb1, hn1, ha1, hc1⟩ := bs_shp r1
  exact by
    obtain ⟨X, n, c, rfl, hm⟩ := ms_arr r0
    exact packs_walk W (toMs a0) X n c hm A1 n1 c1 xs1 hb1 ha1 hn1 (by omega) (by omega)

/-- NetPacks, for every input: the statement as it was given. -/
theorem netPacks_holds : Rows.NetPacksSaid :=
  OpenClaim.holds_of_wide 3 Try.f3 rfl rfl rfl rfl rfl rfl rfl ⟨rfl, rfl, rfl, rfl, rfl⟩ rfl rfl rfl rfl rfl (by kernel_rfl) Try.func3 (by kernel_rfl)
    (of_decide_eq_true (by kernel_rfl)) (by unfold Func.isWrapper; first | (rw [if_pos (by decide +kernel)]; kernel_rfl) | (rw [if_neg (by decide +kernel)]; exact ⟨rfl, rfl⟩))
    (fun os started H enc _ => netPacks_lifted os started H enc)
end Go.Proofs.Ytallbhdfbkkjkaa
