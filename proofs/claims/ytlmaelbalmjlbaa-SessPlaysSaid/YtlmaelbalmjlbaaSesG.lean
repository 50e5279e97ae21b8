/- Layer 16: rows of messages of a call's own; Step. -/
import Derived.Test.YtlmaelbalmjlbaaSesF
set_option linter.all false
namespace Go.Proofs.Ytlmaelbalmjlbaa
open Go.RowKit
namespace Ses
open Net
abbrev mv (p : Ms × Value) : List Value := (ma p.1 p.2).toList
def mvs (P : List (Ms × Value)) : List Value := P.flatMap mv
theorem mvs_app (P Q : List (Ms × Value)) : mvs (P ++ Q) = mvs P ++ mvs Q := by simp [mvs]
theorem mvs_snoc (P : List (Ms × Value)) (p : Ms × Value) : mvs (P ++ [p]) = mvs P ++ mv p := by rw [mvs_app]; simp [mvs]
theorem mvs_cons (p : Ms × Value) (P : List (Ms × Value)) : mvs (p :: P) = mv p ++ mvs P := rfl
theorem mvs_len : ∀ P : List (Ms × Value), (mvs P).length = P.length * 7
  | [] => rfl
  | p :: P => by rw [mvs_cons, List.length_append, mvs_len P, List.length_cons]; simp; omega
theorem mvs_at : ∀ {P : List (Ms × Value)} {k : Nat} (h : k < P.length) {j : Nat} (_ : j < 7), (mvs P)[k * 7 + j]? = (mv P[k])[j]?
  | p :: P, 0, _, j, hj => by
    rw [mvs_cons, List.getElem?_append_left (by simp; omega)]
    simp
  | p :: P, k + 1, h, j, hj => by
    rw [mvs_cons, List.getElem?_append_right (by simp; omega)]
    have e : (k + 1) * 7 + j - (mv p).length = k * 7 + j := by simp; omega
    rw [e, mvs_at (P := P) (by simpa using h) hj]
    simp
theorem info_msg : (Try.prog.info? 36).map (fun i => (i.zero, i.size, i.bytes)) = some (some (.agg ma0), 7, 72) := by kernel_rfl
theorem msg_info : ∃ i, Try.prog.info? 36 = some i ∧ i.zero = some (.agg ma0) ∧ i.size = 7 ∧ i.bytes = 72 := by
  obtain ⟨i, hi, he⟩ := Option.map_eq_some_iff.1 info_msg
  simp only [Prod.mk.injEq] at he
  exact ⟨i, hi, he.1, he.2.1, he.2.2⟩
theorem mv_one (m : Ms) (A : Option Addr) (n c : Nat) : ∀ u ∈ mv (m, .slice A n c), u.oneCell' = true := by
  intro u hu
  simp only [mv, List.mem_cons, List.not_mem_nil, or_false] at hu
  rcases hu with rfl | rfl | rfl | rfl | rfl | rfl | rfl <;> rfl
/-- A row of messages of the call's own, whose loads are the call's own, too; all blocks are from B on. -/
structure Prw (w : World) (B : Nat) (v : Value) (P : List (Ms × Value)) : Prop where
  row : w.ownsRow B 36 7 v P.length (mvs P)
  each : ∀ p ∈ P, w.ownsRow B 5 1 p.2 p.1.d.length (bvs p.1.d) ∧ FitS p.1 ∧ p.1.d.length ≤ 1200
theorem Prw.keep {w w' : World} {B : Nat} {v : Value} {P : List (Ms × Value)} (h : Prw w B v P) (hb : Below w.heap.size w w') : Prw w' B v P := ⟨own_keep h.row hb, fun p hp => ⟨own_keep (h.each p hp).1 hb, (h.each p hp).2⟩⟩
theorem Prw.fu {w w' : World} {B : Nat} {v : Value} {P : List (Ms × Value)} {S : Nat → Prop} (h : Prw w B v P) (hf : Fu S w w') (hs : ∀ k, B ≤ k → k < w.heap.size → ¬ S k) : Prw w' B v P :=
  ⟨own_fu h.row hf (fun g hg => hs g (h.row.lt g hg).1 (h.row.lt g hg).2), fun p hp => ⟨own_fu (h.each p hp).1 hf (fun g hg => hs g ((h.each p hp).1.lt g hg).1 ((h.each p hp).1.lt g hg).2), (h.each p hp).2⟩⟩
theorem Prw.mono {w : World} {B B' : Nat} {v : Value} {P : List (Ms × Value)} (h : Prw w B v P) (hB : B' ≤ B) : Prw w B' v P := ⟨h.row.mono hB, fun p hp => ⟨(h.each p hp).1.mono hB, (h.each p hp).2⟩⟩
theorem mdt_own {w : World} {B : Nat} {m : Ms} {X : Option Addr} {n c : Nat} (h : w.ownsRow B 5 1 (.slice X n c) m.d.length (bvs m.d)) (hf : FitS m) (hl : m.d.length ≤ 1200) : Mdt w m X n c ∧ (∀ a, X = some a → B ≤ a.block ∧ a.block < w.heap.size) := by
  obtain ⟨A', c', e, h1, h2, h3⟩ := own_form h
  injection e with e1 e2 e3
  subst e1 e3
  have hb := h
  rw [e2] at hb
  unfold maxLen at h2
  subst e2
  exact ⟨⟨bs_own h, h3, h1, by omega, by omega, hf⟩, fun a ea => h.lt a.block (by rw [ea]; rfl)⟩
/-- An element. -/
theorem Prw.get {w : World} {B : Nat} {A : Option Addr} {n c : Nat} {P : List (Ms × Value)} (h : Prw w B (.slice A n c) P) {k : Nat} (hk : k < P.length) :
    ∃ g X p d, A = some ⟨g, 0, none⟩ ∧ n = P.length ∧ Mdt w P[k].1 X p d ∧ (∀ a, X = some a → B ≤ a.block ∧ a.block < w.heap.size) ∧ B ≤ g ∧ g < w.heap.size ∧ P[k].2 = .slice X p d ∧
      w.cell? ⟨g, k * 7, none⟩ = some (.int .i64 P[k].1.fr) ∧ w.cell? ⟨g, k * 7 + 1, none⟩ = some (.int .i64 P[k].1.to) ∧ w.cell? ⟨g, k * 7 + 2, none⟩ = some (.int .i64 P[k].1.k) ∧ w.cell? ⟨g, k * 7 + 3, none⟩ = some (.int .i64 P[k].1.ep) ∧ w.cell? ⟨g, k * 7 + 4, none⟩ = some (.int .i64 P[k].1.sq) ∧ w.cell? ⟨g, k * 7 + 5, none⟩ = some (.int .i64 P[k].1.ac) ∧ w.cell? ⟨g, k * 7 + 6, none⟩ = some (.slice X p d) := by
  have hr := h.row
  obtain ⟨A', c', e, _⟩ := own_form hr
  injection e with e1 e2 e3
  subst e1 e2 e3
  obtain ⟨g, cap, e, _⟩ := hr.form (by omega)
  injection e with e1 _ _
  subst e1
  have at_ : ∀ j u, j < 7 → (mv P[k])[j]? = some u → w.cell? ⟨g, k * 7 + j, none⟩ = some u := fun j u hj hu => by
    rw [hr.cellAt (k * 7 + j) (by omega), mvs_at hk hj, hu]
  obtain ⟨h1, h2, h3⟩ := h.each _ (List.getElem_mem hk)
  obtain ⟨X, d, ev, _⟩ := own_form h1
  rw [ev] at h1
  obtain ⟨hM, hX⟩ := mdt_own h1 h2 h3
  have hg := hr.lt g rfl
  exact ⟨g, X, _, d, rfl, rfl, hM, hX, hg.1, hg.2, ev, at_ 0 _ (by omega) rfl, at_ 1 _ (by omega) rfl, at_ 2 _ (by omega) rfl, at_ 3 _ (by omega) rfl, at_ 4 _ (by omega) rfl, at_ 5 _ (by omega) rfl, by rw [← ev]; exact at_ 6 _ (by omega) rfl⟩
/-- What Step answers, and leaves. -/
def StpA (b : Nat) (U : Nat → Prop) (e : En) (w w' : World) (r : Ending) : Prop :=
  ∃ v P, r = .returned v ∧ Prw w' w.heap.size v P ∧ P.map (·.1) = stpL e ∧ Ed w' b U (stpS e) ∧ Fu (fun k => k = b) w w'
theorem openL_take (e : En) (i : Nat) : ((List.range (i + 1)).map fun j => loadM e (e.a + j)) = ((List.range i).map fun j => loadM e (e.a + j)) ++ [loadM e (e.a + i)] := by rw [List.range_succ, List.map_append]; rfl
theorem I64.ok {z : Int} (h : 0 ≤ z) (h2 : z ≤ 9223372036854775807) : I64 z := by unfold I64; omega
theorem fit_load {e : En} (hk : nodeP e.n e.p e.ep) (hl : e.l.length ≤ 1000000000000000000) (hc : e.c ≤ 1000000000000000000) {i : Nat} (hi : i < e.l.length) : FitS (loadM e i) := by
  obtain ⟨h0, h1, h2, h3, h4, h5, h6⟩ := hk
  refine ⟨?_, ?_, ?_, ?_, ?_, ?_⟩ <;> refine I64.ok ?_ ?_ <;> simp only [loadM] <;> omega
theorem fit_ack {e : En} (hk : nodeP e.n e.p e.ep) (hc : e.c ≤ 1000000000000000000) : FitS (ackM e) := by
  obtain ⟨h0, h1, h2, h3, h4, h5, h6⟩ := hk
  refine ⟨?_, ?_, ?_, ?_, ?_, ?_⟩ <;> refine I64.ok ?_ ?_ <;> simp only [ackM] <;> omega
/-- A message more. -/
theorem Prw.push {w w' : World} {B B2 : Nat} {v v' : Value} {P : List (Ms × Value)} {m : Ms} {X : Option Addr} {n c : Nat} (h : Prw w B v P) (hg : w.grownBy w' v.ownBlock) (hv : w'.ownsRow B2 36 7 v' (P.length + 1) (mvs P ++ mv (m, .slice X n c))) (hB2 : B ≤ B2)
    (hx : w.ownsRow B 5 1 (.slice X n c) m.d.length (bvs m.d)) (hf : FitS m) (hl : m.d.length ≤ 1200) : Prw w' B v' (P ++ [(m, .slice X n c)]) := by
  refine ⟨by rw [List.length_append, List.length_singleton, mvs_snoc]; exact hv.mono hB2, fun p hp => ?_⟩
  rcases List.mem_append.1 hp with hp | hp
  · obtain ⟨h1, h2⟩ := h.each p hp
    exact ⟨own_grown h1 hg (fun k hk q => own_ne h.row h1 (by decide) (g := k) q.symm hk), h2⟩
  · rw [List.mem_singleton.1 hp]
    exact ⟨own_grown hx hg (fun k hk q => own_ne h.row hx (by decide) (g := k) q.symm hk), hf, hl⟩
section
variable (w : World)
set_option maxRecDepth 100000 in
set_option maxHeartbeats 8000000 in
theorem step_ (b : Nat) (U : Nat → Prop) (e : En) (h : Ed w b U e) (hU : ∀ k, U k → k < w.heap.size) (hl : e.l.length ≤ 1000000000000000000) (hc : e.c ≤ 1000000000000000000) :
    Calls Try.prog 15 #[.pointer (some ⟨b, 0, none⟩)] w fun r w' => StpA b U e w w' r := by
  obtain ⟨i0, hi0', hz0, hz1, hz2⟩ := msg_info
  have Hz := Lib.hid hz2
  obtain ⟨A, q, L, hX⟩ := h
  have hG := given_ w b e A q hX.blk
  obtain ⟨_, c1, c2, c3, c4, c5, c6, c7⟩ := ea_cells hX.blk
  have hq8 := hX.n8
  have HX := Lib.hid hX
  have HQ := Lib.hid hX.len
  have hbl := hX.blk.lt
  clear hX hz2
  go_enter Try.func15, Try.ntmps15
  go_wp2_with fail
  refine hG.mono ?_
  rintro r w' ⟨rfl, rfl⟩
  go_wp2_with fail
  go_loopw [15, 3] (fun iv lv wr => ∃ (i : Nat) (P : List (Ms × Value)), i ≤ q ∧ iv = .int .i64 (i : Int) ∧ Prw wr w.heap.size lv P ∧ P.map (·.1) = ((List.range i).map fun j => loadM e (e.a + j)) ∧ Below w.heap.size w wr) (fun iv _ _ => q - (intOf iv).toNat)
  case atStart => exact ⟨0, [], Nat.zero_le _, rfl, ⟨own_nil _ _ _ _, by simp⟩, rfl, Below.refl _ _⟩
  case round =>
    obtain ⟨i, P, hiq, rfl, hP, hPl, hB⟩ := hrel
    have HPl := Lib.hid hPl
    clear hPl
    have hi0 : (0 : Int) ≤ (i : Int) := by omega
    by_cases hlt : i < q
    · have hil : (i : Int) < (q : Int) := by omega
      have hXr := HX.out.fu (S := fun _ => False) (Fu.ofBelow hB) (fun _ _ e => e) (fun e => e)
      have HXr := Lib.hid hXr
      have hsz := hB.size
      have hbk := hXr.blk
      obtain ⟨ba, oa, X, mx, cx, d, rfl, hd, hcx, hbx, hmx, hcx2, hm12, hxn, hxu⟩ := hXr.q.get hlt
      have hM := message_ wr b e _ q hXr.blk 1
      clear hXr
      go_wp2_with fail
      refine hM.mono ?_
      rintro r w2 ⟨rfl, hb2⟩
      have hk2 := hbk.keep hb2
      have hP2 := hP.keep hb2
      have hB2 := hB.trans (hb2.mono hsz)
      have hs2 := hb2.size
      have hbx2 := hbx.below hb2
      clear hbk hP hB hM hcx hbx
      rename_i u3
      go_wp2_with fail
      have hm3 : Blk (w2.alloc (.cells (ma ⟨e.n, e.p, 1, e.ep, 0, e.c, []⟩ (.slice none 0 0)) 36)) w2.heap.size 36 (ma ⟨e.n, e.p, 1, e.ep, 0, e.c, []⟩ (.slice none 0 0)) := Blk.new w2 _ _ rfl
      have hb3 : Below w2.heap.size w2 (w2.alloc (.cells (ma ⟨e.n, e.p, 1, e.ep, 0, e.c, []⟩ (.slice none 0 0)) 36)) := (Below.refl _ _).alloc (Nat.le_refl _) _
      generalize hw3 : w2.alloc (.cells (ma ⟨e.n, e.p, 1, e.ep, 0, e.c, []⟩ (.slice none 0 0)) 36) = w3
      rw [hw3] at hm3 hb3
      have hs3 : w3.heap.size = w2.heap.size + 1 := by rw [← hw3]; simp
      have hk3 := hk2.keep hb3
      have hP3 := hP2.keep hb3
      have hbx3 := hbx2.below hb3
      have hB3 := hB2.trans (hb3.mono (by omega))
      obtain ⟨g, hg⟩ : ∃ g, w2.heap.size = g := ⟨_, rfl⟩
      rw [hg] at hm3 hs3 ⊢
      have hgb : g ≠ b := by omega
      have hgw : w.heap.size ≤ g := by omega
      have Lt1 := Lib.hid (show ∀ k, Value.ownBlock u3 = some k → k < w2.heap.size from fun k hk => (hP2.row.lt k hk).2)
      have Lt2 := Lib.hid (show ∀ p ∈ P, ∀ k, p.2.ownBlock = some k → k < w2.heap.size from fun p hp k hk => ((hP2.each p hp).1.lt k hk).2)
      clear hw3 hk2 hP2 hbx2 hB2 hb3 hb2
      have e4 := hk3.cell (j := 4) (u := .int .i64 (e.a : Int)) rfl
      obtain ⟨_, _, _, _, g4, _, g6⟩ := ma_blk hm3
      have f4 := hm3.free 4
      have f6 := hm3.free 6
      have HE := HX.out.ack
      have hin : e.a + i < e.l.length := by have := HQ.out; omega
      have hwa : IntKind.i64.wrap ((e.a : Int) + 1) = ((e.a + 1 : Nat) : Int) := by rw [IntKind.wrap_i64]; omega
      obtain ⟨z, hz⟩ : ∃ z : Int, z = ((e.a + i : Nat) : Int) + 1 := ⟨_, rfl⟩
      have hwi : IntKind.i64.wrap ((e.a : Int) + 1 + (i : Int)) = z := by rw [IntKind.wrap_i64]; omega
      have HZ := Lib.hid hz
      clear hz
      have Hd := Lib.hid (show e.l.getD (e.a + i) [] = d by
        have h1 := HX.out.is
        rw [h1, List.getElem?_drop] at hd
        rw [List.getD, hd]; rfl)
      have Hml := Lib.hid hbx3.len
      clear hd
      go_region_law (first
        | (go_simp
           go_at_call 33
           refine (clone_ X mx cx d w3.drew (Bs.drew hbx3) hxn hmx hcx2 (by omega)).mono ?_
           rintro r w4 ⟨v4, rfl, hown4, hb4⟩
           obtain ⟨X4, c4', rfl, hc4, hmx4, hX4⟩ := own_form hown4
           have hb4' : Below w3.heap.size w3 w4 := ⟨hb4.os, hb4.tape, hb4.output, hb4.size, hb4.block⟩
           have hm4 := hm3.keep hb4'
           have hk4 := hk3.keep hb4'
           have k4 := hk4.cell (j := 4) (u := .int .i64 (e.a : Int)) rfl
           have n4 := hm4.cell (j := 4) (u := .int .i64 0) rfl
           have n6 := hm4.cell (j := 6) (u := .slice none 0 0) rfl
           have p4 := hm4.free 4
           have p6 := hm4.free 6
           have hs4 : w3.heap.size ≤ w4.heap.size := hb4'.size))
      all_goals (
        have hm6 : Blk ((w4.setCell ⟨g, 4, none⟩ (.int .i64 z)).setCell ⟨g, 6, none⟩ (.slice X4 mx c4')) g 36 (ma (loadM e (e.a + i)) (.slice X4 mx c4')) := by
          have h := (hm4.setCell 4 (.int .i64 z)).setCell 6 (.slice X4 mx c4')
          rw [HZ.out] at h ⊢
          exact h
        have hf6 : Fu (fun k => k = g) w4 ((w4.setCell ⟨g, 4, none⟩ (.int .i64 z)).setCell ⟨g, 6, none⟩ (.slice X4 mx c4')) := fu_set1 (fu_set1 (Fu.refl _ _) 4 _) 6 _
        have hB6 : Below w.heap.size w ((w4.setCell ⟨g, 4, none⟩ (.int .i64 z)).setCell ⟨g, 6, none⟩ (.slice X4 mx c4')) := (hB3.trans (hb4'.mono (by omega))).trans (hf6.below (by omega) (fun j q => by omega))
        have hown6 : ((w4.setCell ⟨g, 4, none⟩ (.int .i64 z)).setCell ⟨g, 6, none⟩ (.slice X4 mx c4')).ownsRow w.heap.size 5 1 (.slice X4 mx c4') mx (bvs d) := (own_fu hown4 hf6 (fun k hk q => by have h1 := (hown4.lt k hk).1; have h2 : w3.heap.size ≤ k := h1; omega)).mono (by have : w3.drew.heap.size = w3.heap.size := rfl; omega)
        have hP4 := hP3.keep hb4'
        have hltr : ∀ p ∈ P, ∀ k, p.2.ownBlock = some k → k < w2.heap.size := fun p hp k hk => Lt2.out p hp k hk
        have hP6 : Prw ((w4.setCell ⟨g, 4, none⟩ (.int .i64 z)).setCell ⟨g, 6, none⟩ (.slice X4 mx c4')) w.heap.size u3 P :=
          ⟨own_fu hP4.row hf6 (fun k hk q => by have := Lt1.out k hk; omega), fun p hp => ⟨own_fu (hP4.each p hp).1 hf6 (fun k hk q => by have := hltr p hp k hk; omega), (hP4.each p hp).2⟩⟩
        have hs6 : w4.heap.size ≤ ((w4.setCell ⟨g, 4, none⟩ (.int .i64 z)).setCell ⟨g, 6, none⟩ (.slice X4 mx c4')).heap.size := hf6.size
        generalize hw6 : (w4.setCell ⟨g, 4, none⟩ (.int .i64 z)).setCell ⟨g, 6, none⟩ (.slice X4 mx c4') = w6
        rw [hw6] at hm6 hf6 hB6 hown6 hP6 hs6
        clear hw6 hm4 hk4 k4 n4 n6 p4 p6 hown4 hP4 hf6 hP3 hbx3 e4 g4 g6 f4 f6 hb4 hb4' hltr
        obtain ⟨d0, d1, d2, d3, d4, d5, d6⟩ := ma_blk hm6
        have hrow6 := hP6.row
        obtain ⟨A1, c1', hu3, hc1, hm1, ha1⟩ := own_form hrow6
        obtain ⟨np, hnp⟩ : ∃ np, P.length = np := ⟨_, rfl⟩
        have Hnp := Lib.hid hnp
        have hni : np = i := by have := congrArg List.length HPl.out; simp at this; omega
        rw [hnp] at hrow6 hu3 hc1 ha1
        subst hu3
        subst hni
        have hbc : Below w6.heap.size w6 (w6.alloc (.cells (ma (loadM e (e.a + np)) (.slice X4 mx c4')) 36)) := (Below.refl _ _).alloc (Nat.le_refl _) _
        have hrow7 := own_keep hrow6 hbc
        have hP7 := hP6.keep hbc
        have hown7 := own_keep hown6 hbc
        have hB7 : Below w.heap.size w (w6.alloc (.cells (ma (loadM e (e.a + np)) (.slice X4 mx c4')) 36)) := hB6.trans (hbc.mono (by omega))
        have hnew : Rd (w6.alloc (.cells (ma (loadM e (e.a + np)) (.slice X4 mx c4')) 36)) (some ⟨w6.heap.size, 0, none⟩) 7 1 (mv (loadM e (e.a + np), .slice X4 mx c4')) := Rd.new w6 (ma (loadM e (e.a + np)) (.slice X4 mx c4')) _ (0, 0) (sz := 7) (n := 1) rfl
        have hb7 : w.heap.size ≤ (w6.alloc (.cells (ma (loadM e (e.a + np)) (.slice X4 mx c4')) 36)).heap.size := by simp; omega
        clear hbc hP6 hown6 hB6
        go_wp2_with (first
          | (at_builtin
             refine wpList_app _ rfl (.tmp 33) (.tmp 35) _ rfl w.heap.size 36 i0 _ 7 72 Try.underlying42 hi0' hz0 hz1 Hz.out rfl (by omega) (.slice A1 np c1') np (mvs P) rfl hrow7 _ 1 1 (mv (loadM e (e.a + np), .slice X4 mx c4')) rfl (by simp) hnew (mv_one _ _ _ _) (by unfold maxLen; omega) (by omega) hb7 ?_
             intro v9 w9 hown9 hg9 hat9)
          | fail)
        have Hdd := Lib.hid (show (loadM e (e.a + np)).d = d from Hd.out)
        refine ⟨⟨np + 1, P ++ [(loadM e (e.a + np), .slice X4 mx c4')], by omega, by go_num, hP7.push hg9 (by rw [hnp]; exact hown9) (Nat.le_refl _) (by rw [Hdd.out, ← Hml.out]; exact hown7) (fit_load HX.out.ok hl hc hin) (by rw [Hdd.out, ← Hml.out]; exact hm12), ?_, hB7.grown hg9 hb7 (fun j q => (hrow7.lt j q).1)⟩, by simp [intOf]; omega⟩
        rw [List.map_append, HPl.out, openL_take]; rfl)
    · have hil : ¬ (i : Int) < (q : Int) := by omega
      have hiq2 : i = q := by omega
      subst hiq2
      have hPn : P.length = i := by have := congrArg List.length HPl.out; simpa using this
      have hXr := HX.out.fu (S := fun _ => False) (Fu.ofBelow hB) (fun _ _ e => e) (fun e => e)
      have hsz := hB.size
      have hbr := hXr.blk
      have f7 := hbr.free 7
      obtain ⟨_, _, _, _, _, _, _, c7r⟩ := ea_cells hbr
      have hM := message_ wr b e _ i hbr 2
      have hrow := hP.row
      obtain ⟨A1, c1', hu3, hc1, hm1, ha1⟩ := own_form hrow
      rw [hPn] at hrow hu3 hc1 ha1
      subst hu3
      have HXr := Lib.hid hXr
      have HP := Lib.hid hP
      clear hXr hP
      by_cases h0 : i = 0
      · subst h0
        have hPe : P = [] := List.eq_nil_of_length_eq_zero hPn
        have hle : e.l.length ≤ e.a := by have := HQ.out; omega
        cases ho : e.o with
        | true =>
          rw [ho] at c7 c7r
          have HS := Lib.hid (show stpL e = [ackM e] by unfold stpL; rw [if_pos hle, if_pos ho])
          clear ho
          go_wp2_with fail
          refine hM.mono ?_
          rintro r w2 ⟨rfl, hb2⟩
          have hk2 := hbr.keep hb2
          have hrow2 := own_keep hrow hb2
          have hbc : Below w2.heap.size w2 (w2.alloc (.cells (ma (ackM e) (.slice none 0 0)) 36)) := (Below.refl _ _).alloc (Nat.le_refl _) _
          have hrow3 := own_keep hrow2 hbc
          have hX3 := (HXr.out.fu (S := fun _ => False) (Fu.ofBelow hb2) (fun _ _ e => e) (fun e => e)).fu (S := fun _ => False) (Fu.ofBelow hbc) (fun _ _ e => e) (fun e => e)
          have hB3 := (hB.trans (hb2.mono hsz)).trans (hbc.mono (by have := hb2.size; omega))
          have hnew : Rd (w2.alloc (.cells (ma (ackM e) (.slice none 0 0)) 36)) (some ⟨w2.heap.size, 0, none⟩) 7 1 (mv (ackM e, .slice none 0 0)) := Rd.new w2 (ma (ackM e) (.slice none 0 0)) _ (0, 0) (sz := 7) (n := 1) rfl
          have hb3 : w.heap.size ≤ (w2.alloc (.cells (ma (ackM e) (.slice none 0 0)) 36)).heap.size := hB3.size
          clear hM f7 c7r hbr hrow
          go_wp2_with (first
            | (at_builtin
               refine wpList_app _ rfl (.tmp 47) (.tmp 50) _ rfl w.heap.size 36 i0 _ 7 72 Try.underlying42 hi0' hz0 hz1 Hz.out rfl (by omega) (.slice A1 0 c1') 0 (mvs P) rfl hrow3 _ 1 1 (mv (ackM e, .slice none 0 0)) rfl (by simp) hnew (mv_one _ _ _ _) (by unfold maxLen; omega) (by omega) hb3 ?_
               intro v9 w9 hown9 hg9 hat9
               have hne9 : some b ≠ (Value.slice A1 0 c1').ownBlock := fun q => by have := (hrow3.lt b q.symm).1; omega
               have hk9 := hX3.blk.grown hg9 hne9
               have f79 := hk9.free 7
               have j7 := hk9.cell (j := 7) (u := .bool e.o) rfl)
            | fail)
          go_ret
          have hF9 : Fu (fun k => k = b) w w9 := (Fu.ofBelow hB3).step hg9 (fun j q => .inr (hrow3.lt j q).1)
          have hX9 : EdX w9 b U e A 0 L := hX3.fu (S := fun k => (Value.slice A1 0 c1').ownBlock = some k) (Fu.ofGrown hg9 (fun k q => q)) (fun k hk q => by have := (hrow3.lt k q).1; have := hU k hk; omega) (fun q => by have := (hrow3.lt b q).1; omega)
          refine ⟨v9, [(ackM e, .slice none 0 0)], rfl, ?_, by rw [HS.out]; rfl, ⟨A, 0, L, hX9.setO false⟩, fu_set1 hF9 7 _⟩
          have h9 : Prw w9 w.heap.size v9 [(ackM e, .slice none 0 0)] := ⟨by subst hPe; exact hown9, fun p hp => by
              rw [List.mem_singleton.1 hp]
              exact ⟨own_nil _ _ _ _, fit_ack HX.out.ok hc, by simp [ackM]⟩⟩
          exact h9.fu (S := fun k => k = b) (fu_set1 (Fu.refl _ _) 7 _) (fun k hk _ q => by omega)
        | false =>
          rw [ho] at c7 c7r
          have HS := Lib.hid (show stpL e = [] by unfold stpL; rw [if_pos hle, if_neg (by rw [ho]; simp)])
          clear ho
          go_wp2
          go_ret
          refine ⟨_, [], rfl, ?_, by rw [HS.out]; rfl, ⟨_, _, _, HXr.out.setO false⟩, fu_set1 (Fu.ofBelow hB) 7 _⟩
          subst hPe
          exact HP.out.fu (S := fun k => k = b) (fu_set1 (Fu.refl _ _) 7 _) (fun k hk _ q => by omega)
      · have t0 : ((i : Int) == 0) = false := by simpa using h0
        have HS := Lib.hid (show stpL e = openL e by unfold stpL; rw [if_neg (by have := HQ.out; omega)])
        go_wp2
        go_ret
        refine ⟨_, P, rfl, HP.out.fu (S := fun k => k = b) (fu_set1 (Fu.refl _ _) 7 _) (fun k hk _ q => by omega), ?_, ⟨_, _, _, HXr.out.setO false⟩, fu_set1 (Fu.ofBelow hB) 7 _⟩
        rw [HPl.out, HS.out, openL, ← HQ.out]
end
end Ses
end Go.Proofs.Ytlmaelbalmjlbaa
