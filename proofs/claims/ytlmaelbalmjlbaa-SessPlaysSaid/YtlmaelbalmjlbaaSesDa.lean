/- Layer 16: the document's End as it lies in memory; New, Begin, Send. -/
import Derived.Test.YtlmaelbalmjlbaaSesF
set_option linter.all false
namespace Go.Proofs.Ytlmaelbalmjlbaa
open Go.RowKit
namespace Ses
open Net
abbrev ra (e : En) (A : Option Addr) (n c : Nat) : Array Value := #[.int .i64 e.n, .int .i64 e.p, .int .i64 e.ep, .slice A n c, .int .i64 (e.a : Int), .int .i64 (e.c : Int), .bool e.o]
abbrev ra0 : Array Value := #[.int .i64 0, .int .i64 0, .int .i64 0, .slice none 0 0, .int .i64 0, .int .i64 0, .bool false]
/-- The document's End at block r; its list's blocks, and its loads', are some of U. -/
structure RxX (w : World) (r : Nat) (U : Nat → Prop) (e : En) (A : Option Addr) (n c : Nat) (L : List Ld) : Prop where
  blk : Blk w r 30 (ra e A n c)
  q : Lq w U A n L
  is : L.map (·.2) = e.l
  ack : e.a ≤ e.l.length
  few : e.l.length ≤ e.a + 8
  out : ¬ U r
  ok : nodeP e.n e.p e.ep
def Rx (w : World) (r : Nat) (U : Nat → Prop) (e : En) : Prop := ∃ A n c L, RxX w r U e A n c L
section
variable {w w' : World} {r : Nat} {U U' S : Nat → Prop} {e : En} {A : Option Addr} {n c : Nat} {L : List Ld}
theorem RxX.fu (h : RxX w r U e A n c L) (hf : Fu S w w') (hs : ∀ k, U k → ¬ S k) (hb : ¬ S r) : RxX w' r U e A n c L := ⟨blk_fu h.blk hf hb, h.q.fu hf hs, h.is, h.ack, h.few, h.out, h.ok⟩
theorem RxX.keep (h : RxX w r U e A n c L) (hb : Below w.heap.size w w') : RxX w' r U e A n c L := h.fu (S := fun _ => False) (Fu.ofBelow hb) (fun _ _ e => e) (fun e => e)
theorem RxX.drewN (h : RxX w r U e A n c L) (k : Nat) : RxX (w.drewN k) r U e A n c L := h.fu (S := fun _ => False) ((Fu.refl _ _).drewN k) (fun _ _ e => e) (fun e => e)
theorem Rx.fu (h : Rx w r U e) (hf : Fu S w w') (hs : ∀ k, U k → ¬ S k) (hb : ¬ S r) : Rx w' r U e := by
  obtain ⟨A, n, c, L, hX⟩ := h; exact ⟨A, n, c, L, hX.fu hf hs hb⟩
theorem Rx.keep (h : Rx w r U e) (hb : Below w.heap.size w w') : Rx w' r U e := h.fu (S := fun _ => False) (Fu.ofBelow hb) (fun _ _ e => e) (fun e => e)
theorem Rx.drewN (h : Rx w r U e) (k : Nat) : Rx (w.drewN k) r U e := by
  obtain ⟨A, n, c, L, h⟩ := h; exact ⟨A, n, c, L, h.drewN k⟩
theorem Rx.sub (h : Rx w r U e) (hu : ∀ k, U k → k < w.heap.size → U' k) (ho : ¬ U' r) : Rx w r U' e := by
  obtain ⟨A, n, c, L, hX⟩ := h; exact ⟨A, n, c, L, hX.blk, hX.q.sub hu, hX.is, hX.ack, hX.few, ho, hX.ok⟩
theorem Rx.lt (h : Rx w r U e) : r < w.heap.size := by obtain ⟨A, n, c, L, hX⟩ := h; exact hX.blk.lt
theorem RxX.len (h : RxX w r U e A n c L) : n = e.l.length := by
  have := congrArg List.length h.is
  rw [List.length_map] at this
  rw [h.q.len, this]
theorem ra_cells (h : Blk w r 30 (ra e A n c)) :
    w.cell? ⟨r, 0, none⟩ = some (.int .i64 e.n) ∧ w.cell? ⟨r, 1, none⟩ = some (.int .i64 e.p) ∧ w.cell? ⟨r, 2, none⟩ = some (.int .i64 e.ep) ∧ w.cell? ⟨r, 3, none⟩ = some (.slice A n c) ∧ w.cell? ⟨r, 4, none⟩ = some (.int .i64 (e.a : Int)) ∧ w.cell? ⟨r, 5, none⟩ = some (.int .i64 (e.c : Int)) ∧ w.cell? ⟨r, 6, none⟩ = some (.bool e.o) :=
  ⟨h.cell rfl, h.cell rfl, h.cell rfl, h.cell rfl, h.cell rfl, h.cell rfl, h.cell rfl⟩
theorem RxX.setO (h : RxX w r U e A n c L) (v : Bool) : RxX (w.setCell ⟨r, 6, none⟩ (.bool v)) r U { e with o := v } A n c L :=
  ⟨h.blk.setCell 6 (.bool v), h.q.fu (S := fun k => k = r) (fu_set (Fu.refl _ _) r 6 _ rfl) (fun k hk q => h.out (q ▸ hk)), h.is, h.ack, h.few, h.out, h.ok⟩
theorem RxX.setC (h : RxX w r U e A n c L) (k : Nat) : RxX (w.setCell ⟨r, 5, none⟩ (.int .i64 (k : Int))) r U { e with c := k } A n c L :=
  ⟨h.blk.setCell 5 (.int .i64 (k : Int)), h.q.fu (S := fun k => k = r) (fu_set (Fu.refl _ _) r 5 _ rfl) (fun k hk q => h.out (q ▸ hk)), h.is, h.ack, h.few, h.out, h.ok⟩
theorem RxX.setA (h : RxX w r U e A n c L) (k : Nat) (h1 : k ≤ e.l.length) (h2 : e.a ≤ k) : RxX (w.setCell ⟨r, 4, none⟩ (.int .i64 (k : Int))) r U { e with a := k } A n c L :=
  ⟨h.blk.setCell 4 (.int .i64 (k : Int)), h.q.fu (S := fun k => k = r) (fu_set (Fu.refl _ _) r 4 _ rfl) (fun k hk q => h.out (q ▸ hk)), h.is, h1, by have := h.few; show e.l.length ≤ k + 8; omega, h.out, h.ok⟩
theorem sets7 {T : TypeId} {x0 x1 x2 x3 x4 x5 x6 : Value} (h : Blk w r T #[x0, x1, x2, x3, x4, x5, x6]) (u0 u1 u2 u3 u4 u5 u6 : Value) :
    Blk (((((((w.setCell ⟨r, 0, none⟩ u0).setCell ⟨r, 1, none⟩ u1).setCell ⟨r, 2, none⟩ u2).setCell ⟨r, 3, none⟩ u3).setCell ⟨r, 4, none⟩ u4).setCell ⟨r, 5, none⟩ u5).setCell ⟨r, 6, none⟩ u6) r T #[u0, u1, u2, u3, u4, u5, u6] := by
  have := ((((((h.setCell 0 u0).setCell 1 u1).setCell 2 u2).setCell 3 u3).setCell 4 u4).setCell 5 u5).setCell 6 u6
  simpa using this
theorem fu7 (w : World) (b : Nat) (u0 u1 u2 u3 u4 u5 u6 : Value) :
    Fu (fun k => k = b) w (((((((w.setCell ⟨b, 0, none⟩ u0).setCell ⟨b, 1, none⟩ u1).setCell ⟨b, 2, none⟩ u2).setCell ⟨b, 3, none⟩ u3).setCell ⟨b, 4, none⟩ u4).setCell ⟨b, 5, none⟩ u5).setCell ⟨b, 6, none⟩ u6) :=
  fu_set (fu_set (fu_set (fu_set (fu_set (fu_set (fu_set (Fu.refl (fun k => k = b) w) b 0 u0 rfl) b 1 u1 rfl) b 2 u2 rfl) b 3 u3 rfl) b 4 u4 rfl) b 5 u5 rfl) b 6 u6 rfl
end
theorem results_n1 {fn : Func} {W : World} {q k j : Nat} {a b c d e f g u : Value} {tmps : Array Value} (hr : fn.results = #[.cell k 30, .tmp j]) (h2 : tmps.getD k undef = .pointer (some ⟨q, 0, none⟩)) (h3 : tmps.getD j undef = u) (hb : Blk W q 30 #[a, b, c, d, e, f, g]) :
    (results fn tmps).run Try.prog W = .ok (.tuple #[.agg #[a, b, c, d, e, f, g], u]) W := by
  have d0 := hb.cell (j := 0) rfl
  have d1 := hb.cell (j := 1) rfl
  have d2 := hb.cell (j := 2) rfl
  have d3 := hb.cell (j := 3) rfl
  have d4 := hb.cell (j := 4) rfl
  have d5 := hb.cell (j := 5) rfl
  have d6 := hb.cell (j := 6) rfl
  have h2' : tmps[k]?.getD undef = .pointer (some ⟨q, 0, none⟩) := by simpa using h2
  have h3' : tmps[j]?.getD undef = u := by simpa using h3
  simp [results, hr, h2', h3', go_sem, d0, d1, d2, d3, d4, d5, d6]
section
variable (w : World)
set_option maxRecDepth 100000 in
set_option maxHeartbeats 2000000 in
theorem rnew_yes (n p ep : Int) (h : nodeP n p ep) : Calls Try.prog 10 #[.int .i64 n, .int .i64 p, .int .i64 ep] w fun e w' =>
    e = .returned (.tuple #[.agg (ra (newS n p ep) none 0 0), .int .i64 0]) ∧ Below w.heap.size w w' := by
  obtain ⟨h0, h1, h2, h3, h4, h5, h6⟩ := h
  have hres := Blk.new w 30 ra0 rfl
  obtain ⟨w1, hw1⟩ : ∃ w1, w.alloc (.cells ra0 30) = w1 := ⟨_, rfl⟩
  have hb1 : Below w.heap.size w w1 := by rw [← hw1]; exact (Below.refl _ _).alloc (Nat.le_refl _) _
  rw [hw1] at hres
  have r0 := hres.cell (j := 0) rfl
  have r1 := hres.cell (j := 1) rfl
  have r2 := hres.cell (j := 2) rfl
  have r3 := hres.cell (j := 3) rfl
  have r4 := hres.cell (j := 4) rfl
  have r5 := hres.cell (j := 5) rfl
  have r6 := hres.cell (j := 6) rfl
  have g0 := hres.free 0
  have g1 := hres.free 1
  have g2 := hres.free 2
  have g3 := hres.free 3
  have g4 := hres.free 4
  have g5 := hres.free 5
  have g6 := hres.free 6
  have t1 : (n == p) = false := by simpa using h4
  have t2 : ¬ ep < 1 := by omega
  have t3 : ¬ 2147483648 < ep := by omega
  have t4 : ¬ n < 0 := by omega
  have t5 : ¬ 16 ≤ n := by omega
  have t6 : ¬ p < 0 := by omega
  have t7 : ¬ 16 ≤ p := by omega
  go_enter Try.func10, Try.ntmps10
  go_wp2
  refine bodyPost_ret (results_n1 rfl rfl rfl (sets7 hres (.int .i64 n) (.int .i64 p) (.int .i64 ep) (.slice none 0 0) (.int .i64 0) (.int .i64 0) (.bool false))) rfl ?_
  exact ⟨rfl, (Fu.ofBelow (S := fun k => k = w.heap.size) hb1).then (fu7 w1 w.heap.size _ _ _ _ _ _ _) (fun j e => .inl e) |>.below (Nat.le_refl _) (fun j e => by omega)⟩
set_option maxRecDepth 100000 in
set_option maxHeartbeats 4000000 in
theorem rnew_no (n p ep : Int) (h : ¬ nodeP n p ep) : Calls Try.prog 10 #[.int .i64 n, .int .i64 p, .int .i64 ep] w fun e w' =>
    e = .returned (.tuple #[.agg ra0, .int .i64 1]) ∧ Below w.heap.size w w' := by
  have hres := Blk.new w 30 ra0 rfl
  obtain ⟨w1, hw1⟩ : ∃ w1, w.alloc (.cells ra0 30) = w1 := ⟨_, rfl⟩
  have hb1 : Below w.heap.size w w1 := by rw [← hw1]; exact (Below.refl _ _).alloc (Nat.le_refl _) _
  rw [hw1] at hres
  have r0 := hres.cell (j := 0) rfl
  have r1 := hres.cell (j := 1) rfl
  have r2 := hres.cell (j := 2) rfl
  have r3 := hres.cell (j := 3) rfl
  have r4 := hres.cell (j := 4) rfl
  have r5 := hres.cell (j := 5) rfl
  have r6 := hres.cell (j := 6) rfl
  have g0 := hres.free 0
  have g1 := hres.free 1
  have g2 := hres.free 2
  have g3 := hres.free 3
  have g4 := hres.free 4
  have g5 := hres.free 5
  have g6 := hres.free 6
  have hk := sets7 hres (.int .i64 0) (.int .i64 0) (.int .i64 0) (.slice none 0 0) (.int .i64 0) (.int .i64 0) (.bool false)
  have hB := (Fu.ofBelow (S := fun k => k = w.heap.size) hb1).then (fu7 w1 w.heap.size (.int .i64 0) (.int .i64 0) (.int .i64 0) (.slice none 0 0) (.int .i64 0) (.int .i64 0) (.bool false)) (fun j e => .inl e) |>.below (Nat.le_refl _) (fun j e => by omega)
  have HK := Lib.hid hk
  have HB := Lib.hid hB
  unfold nodeP at h
  clear hres hk hB
  by_cases h1 : n < 0
  · go_enter Try.func10, Try.ntmps10
    go_wp2
    exact bodyPost_ret (results_n1 rfl rfl rfl HK.out) rfl ⟨rfl, HB.out⟩
  · by_cases h2 : 16 ≤ n
    · go_enter Try.func10, Try.ntmps10
      go_wp2
      exact bodyPost_ret (results_n1 rfl rfl rfl HK.out) rfl ⟨rfl, HB.out⟩
    · by_cases h3 : p < 0
      · go_enter Try.func10, Try.ntmps10
        go_wp2
        exact bodyPost_ret (results_n1 rfl rfl rfl HK.out) rfl ⟨rfl, HB.out⟩
      · by_cases h4 : 16 ≤ p
        · go_enter Try.func10, Try.ntmps10
          go_wp2
          exact bodyPost_ret (results_n1 rfl rfl rfl HK.out) rfl ⟨rfl, HB.out⟩
        · by_cases h5 : n = p
          · have t1 := eq_t h5
            subst h5
            go_enter Try.func10, Try.ntmps10
            go_wp2
            exact bodyPost_ret (results_n1 rfl rfl rfl HK.out) rfl ⟨rfl, HB.out⟩
          · have t1 := eq_f h5
            by_cases h6 : ep < 1
            · go_enter Try.func10, Try.ntmps10
              go_wp2
              exact bodyPost_ret (results_n1 rfl rfl rfl HK.out) rfl ⟨rfl, HB.out⟩
            · have h7 : 2147483648 < ep := by omega
              go_enter Try.func10, Try.ntmps10
              go_wp2
              exact bodyPost_ret (results_n1 rfl rfl rfl HK.out) rfl ⟨rfl, HB.out⟩
set_option maxRecDepth 100000 in
set_option maxHeartbeats 2000000 in
theorem rbegin_ (r : Nat) (U : Nat → Prop) (e : En) (h : Rx w r U e) (ep : Int) :
    Calls Try.prog 21 #[.pointer (some ⟨r, 0, none⟩), .int .i64 ep] w fun q w' => q = .returned (.int .i64 (begE e ep)) ∧ Rx w' r U (begS e ep) ∧ Fu (fun k => k = r) w w' := by
  have H0 := Lib.hid h
  obtain ⟨A, n, c, L, h⟩ := h
  have H := Lib.hid h
  have hbk := h.blk
  obtain ⟨c0, c1, c2, c3, c4, c5, c6⟩ := ra_cells h.blk
  have f0 := h.blk.free 0
  have f1 := h.blk.free 1
  have f2 := h.blk.free 2
  have f3 := h.blk.free 3
  have f4 := h.blk.free 4
  have f5 := h.blk.free 5
  have f6 := h.blk.free 6
  clear h
  by_cases h1 : ep ≤ e.ep
  · have HE := Lib.hid (show begE e ep = 1 by unfold begE; rw [if_pos (.inl h1)])
    go_enter Try.func21, Try.ntmps21
    go_wp2
    go_ret
    rw [show begS e ep = e by unfold begS; rw [HE.out]; rfl, HE.out]
    exact ⟨rfl, H0.out, Fu.refl _ _⟩
  · by_cases h2 : 2147483648 < ep
    · have HE := Lib.hid (show begE e ep = 1 by unfold begE; rw [if_pos (.inr h2)])
      go_enter Try.func21, Try.ntmps21
      go_wp2
      go_ret
      rw [show begS e ep = e by unfold begS; rw [HE.out]; rfl, HE.out]
      exact ⟨rfl, H0.out, Fu.refl _ _⟩
    · have HE := Lib.hid (show begE e ep = 0 by unfold begE; rw [if_neg (by omega)])
      have HS := Lib.hid (show begS e ep = newS e.n e.p ep by unfold begS; rw [if_pos HE.out])
      have HK := Lib.hid (show nodeP e.n e.p ep by obtain ⟨a1, a2, a3, a4, a5, a6, a7⟩ := H.out.ok; exact ⟨a1, a2, a3, a4, a5, by omega, by omega⟩)
      go_enter Try.func21, Try.ntmps21
      go_wp2_with fail
      go_region
      all_goals (
        go_wp2
        go_ret
        rw [HE.out, HS.out]
        have hk := sets7 hbk (.int .i64 e.n) (.int .i64 e.p) (.int .i64 ep) (.slice none 0 0) (.int .i64 0) (.int .i64 0) (.bool false)
        have hf := fu7 w r (.int .i64 e.n) (.int .i64 e.p) (.int .i64 ep) (.slice none 0 0) (.int .i64 0) (.int .i64 0) (.bool false)
        exact ⟨rfl, ⟨none, 0, 0, [], blk_drew hk, lq_none, rfl, Nat.le_refl _, Nat.zero_le _, H.out.out, HK.out⟩, hf.drew⟩)
set_option maxRecDepth 100000 in
set_option maxHeartbeats 4000000 in
theorem rsend_ (r : Nat) (U : Nat → Prop) (e : En) (h : Rx w r U e) (hl : e.l.length ≤ 2000000000000) (X : Option Addr) (m c : Nat) (d : List UInt8) (hX : Bs w X m d) (hXn : X = none → m = 0 ∧ c = 0) :
    Calls Try.prog 13 #[.pointer (some ⟨r, 0, none⟩), .slice X m c] w fun q w' => q = .returned (.int .i64 (sndE e d)) ∧ Rx w' r (fun k => U k ∨ w.heap.size ≤ k) (sndS e d) ∧ Fu (fun k => k = r) w w' := by
  have Hd := Lib.hid hX.len
  have H0 := Lib.hid h
  obtain ⟨A, n, cc, L, h⟩ := h
  have HL := Lib.hid h.len
  have H := Lib.hid h
  have hbl := h.blk.lt
  obtain ⟨_, _, _, c3, c4, _, _⟩ := ra_cells h.blk
  have hSub : ∀ k, U k → k < w.heap.size → (U k ∨ w.heap.size ≤ k) := fun k hk _ => .inl hk
  obtain ⟨a0, ha0⟩ : ∃ a0, e.a = a0 := ⟨_, rfl⟩
  have Ha := Lib.hid ha0
  have han : a0 ≤ n := by have := h.ack; have := HL.out; omega
  have hn8 : n ≤ a0 + 8 := by have := h.few; have := HL.out; omega
  have hn2 : n ≤ 2000000000000 := by have := HL.out; omega
  rw [ha0] at c4
  clear h ha0
  by_cases h1 : 1200 < m
  · have HE := Lib.hid (show sndE e d = 1 by unfold sndE; rw [if_pos (by have := Hd.out; omega)])
    go_enter Try.func13, Try.ntmps13
    go_wp2
    go_ret
    rw [show sndS e d = e by unfold sndS; rw [HE.out]; rfl, HE.out]
    exact ⟨rfl, H0.out.sub hSub (fun q => q.elim H.out.out (by omega)), Fu.refl _ _⟩
  · have hwn : IntKind.i64.wrap ((n : Int) - (a0 : Int)) = ((n - a0 : Nat) : Int) := by rw [IntKind.wrap_i64]; omega
    by_cases h2 : 8 ≤ n - a0
    · have h2i : (8 : Int) ≤ ((n - a0 : Nat) : Int) := by omega
      have HE := Lib.hid (show sndE e d = 15 by unfold sndE; rw [if_neg (by have := Hd.out; omega), if_pos (by have := HL.out; have := Ha.out; omega)])
      have h2d : decide ((8 : Int) ≤ (n : Int) - (a0 : Int)) = true := by rw [decide_eq_true_eq]; omega
      go_enter Try.func13, Try.ntmps13
      go_wp2_with fail
      go_quiet (fail)
      go_wp2
      go_ret
      rw [show sndS e d = e by unfold sndS; rw [HE.out]; rfl, HE.out]
      exact ⟨rfl, (H0.out.sub hSub (fun q => q.elim H.out.out (by omega))).drewN _, (Fu.refl _ _).drewN _⟩
    · have h2i : ¬ (8 : Int) ≤ ((n - a0 : Nat) : Int) := by omega
      have h2d : decide ((8 : Int) ≤ (n : Int) - (a0 : Int)) = false := by rw [decide_eq_false_iff_not]; omega
      have HE := Lib.hid (show sndE e d = 0 by unfold sndE; rw [if_neg (by have := Hd.out; omega), if_neg (by have := HL.out; have := Ha.out; omega)])
      have HS := Lib.hid (show sndS e d = { e with l := e.l ++ [d] } by unfold sndS; rw [if_pos HE.out])
      obtain ⟨i0, hi0, hz0, hz1, hz2⟩ := bytes_info
      have Hz := Lib.hid hz2
      obtain ⟨i1, hi1, hy0, hy1, hy2⟩ := info_parts info_u8
      have Hy := Lib.hid hy2
      clear hz2 hy2
      go_enter Try.func13, Try.ntmps13
      go_wp2_with fail
      go_quiet (fail)
      generalize hw5 : w.drewN nq = w5
      have hX5 : RxX w5 r U e A n cc L := by rw [← hw5]; exact H.out.drewN nq
      have hx5 : Bs w5 X m d := by rw [← hw5]; exact hX.drewN nq
      have hF5 : Fu (fun k => k = r) w w5 := by rw [← hw5]; exact (Fu.refl _ _).drewN nq
      have hs5 : w5.heap.size = w.heap.size := by rw [← hw5]; rfl
      clear c3 c4 hw5 hX
      obtain ⟨_, _, _, c3, c4, _, _⟩ := ra_cells hX5.blk
      rw [Ha.out] at c4
      have hrow := hX5.q.row
      have hnil := hX5.q.nil
      have hone := hX5.q.ones
      have H5 := Lib.hid hX5
      have hbk5 := hX5.blk
      have hXm : X = none → m = 0 := fun h => (hXn h).1
      clear hX5
      go_wp2_with (first
        | (at_builtin
           refine wpList_app _ rfl (.const (.slice none 0 0)) (.tmp 23) _ rfl w5.heap.size 34 i0 _ 1 24 Try.underlying28 hi0 hz0 hz1 Hz.out rfl (by omega) (.slice none 0 0) 0 [] rfl (own_nil _ _ _ _) A n cc (lvs L) rfl hnil hrow hone (by unfold maxLen; omega) (by omega) (Nat.le_refl _) ?_
           intro vA wA hownA hgA hatA
           obtain ⟨AA, cA, rfl, hcA, hmA, haA⟩ := own_form hownA
           simp only [Nat.zero_add, List.nil_append] at hownA hcA haA ⊢
           have hbA : Below w5.heap.size w5 wA := grown_below hgA (Nat.le_refl _) (fun k e => by cases e)
           have hsA := hbA.size
           have hxA : Bs wA X m d := hx5.below hbA)
        | (at_builtin
           refine wpList_app _ rfl (.const (.slice none 0 0)) (.tmp 25) _ rfl w5.heap.size 5 i1 _ 1 1 Try.underlying34 hi1 hy0 hy1 Hy.out rfl (by omega) (.slice none 0 0) 0 [] rfl (own_nil _ _ _ _) X m c (bvs d) rfl hXm hxA (bvs_one _) (by unfold maxLen; omega) (by omega) hsA ?_
           intro vB wB hownB hgB hatB
           obtain ⟨AB, cB, rfl, hcB, hmB, haB⟩ := own_form hownB
           simp only [Nat.zero_add, List.nil_append] at hownB hcB haB ⊢
           have hbB : Below wA.heap.size wA wB := grown_below hgB (Nat.le_refl _) (fun k e => by cases e)
           have hbC : Below wB.heap.size wB (wB.alloc (.cells #[.slice AB m cB] 34)) := (Below.refl _ _).alloc (Nat.le_refl _) _
           have hBC : Below w5.heap.size w5 (wB.alloc (.cells #[.slice AB m cB] 34)) := (hbA.trans (hbB.mono hsA)).trans (hbC.mono (by have := hbB.size; omega))
           have hownA4 := own_keep (own_keep hownA hbB) hbC
           have hownB4 := own_keep hownB hbC
           have hnew : Rd (wB.alloc (.cells #[.slice AB m cB] 34)) (some ⟨wB.heap.size, 0, none⟩) 1 1 [.slice AB m cB] := Rd.new wB _ _ (0, 0) (sz := 1) (n := 1) rfl
           have hsC := hBC.size)
        | (at_builtin
           refine wpList_app _ rfl (.tmp 24) (.tmp 27) _ rfl w5.heap.size 34 i0 _ 1 24 Try.underlying28 hi0 hz0 hz1 Hz.out rfl (by omega) (.slice AA n cA) n (lvs L) rfl hownA4 _ 1 1 [.slice AB m cB] rfl (by simp) hnew (by simp [Value.oneCell']) (by unfold maxLen; omega) (by omega) hsC ?_
           intro vD wD hownD hgD hatD
           obtain ⟨AD, cD, rfl, hcD, hmD, haD⟩ := own_form hownD
           have hBD : Below w5.heap.size w5 wD := hBC.grown hgD hsC (fun j q => (hownA4.lt j q).1)
           have hownBD := own_grown hownB4 hgD (fun k hk e => own_ne hownA4 hownB4 (by decide) (g := k) e.symm hk)
           have hkD := hbk5.keep hBD
           have kD := hkD.cell (j := 3) (u := .slice A n cc) rfl
           have fD := hkD.free 3)
        | fail)
      go_ret
      rw [HE.out, HS.out]
      have hU : ¬ (U r ∨ w.heap.size ≤ r) := fun q => q.elim H.out.out (by omega)
      refine ⟨rfl, ⟨AD, n + 1, cD, L ++ [(.slice AB m cB, d)], ?_, ?_, ?_, ?_, ?_, hU, H.out.ok⟩, ?_⟩
      · exact hkD.setCell 3 (.slice AD (n + 1) cD)
      · refine Lq.fu (S := fun k => k = r) (w := wD) ?_ (fu_set1 (Fu.refl _ _) 3 _) (fun k hk q => hU (q ▸ hk))
        refine Lq.own (B := w5.heap.size) (c := cD) (by rw [lvs, List.map_append]; exact hownD) (fun p hp => ?_) (fun k hk => .inr (by omega))
        rcases List.mem_append.1 hp with hp | hp
        · exact ((H5.out.q.data p hp).keep hBD).sub (fun k hk _ => .inl hk)
        · rw [List.mem_singleton.1 hp]
          exact Dt.own hownBD (show d.length ≤ 1200 by have := Hd.out; omega) (fun k hk => .inr (by omega))
      · rw [List.map_append, H5.out.is]; rfl
      · have := H5.out.ack; simp; omega
      · have := HL.out; have := Ha.out; simp; omega
      · exact fu_set1 (hF5.then (Fu.ofBelow (S := fun _ => False) hBD) (fun j q => q.elim)) 3 _
end
end Ses
end Go.Proofs.Ytlmaelbalmjlbaa
