/- Layer 17: an order is delivered. -/
import Derived.Test.YtpjbeodnalgkfaaBarW
set_option linter.all false
namespace Go.Proofs.Ytpjbeodnalgkfaa
open Go.RowKit
namespace Bar
/-- How much there is at most. -/
structure Lim (N : Nat) (W : Wd) : Prop where
  os : W.os.length ≤ 305
  ax : W.ax.length ≤ 300
  ids : W.ids.length ≤ N
  cm : ∀ a ∈ W.g, a.cm.length ≤ N
  g : W.g.length ≤ 5
  osI : ∀ o ∈ W.os, I64 o.id
  idsI : ∀ x ∈ W.ids, I64 x
  n : W.c.ans.length = W.g.length
/-- Where what happens comes to stand. -/
def WdoA (B : Nat) (P : Nat → Prop) (wb cg : Nat) (gs : Nat → Nat) (av : Value) (W' : Wd) (w w' : World) (r : Ending) : Prop := ∃ ov xv iv, r = .returned (.tuple #[]) ∧ WmX w' B P wb cg gs av ov xv iv W' ∧ Fr B P w w'
theorem info_answer : (Try.prog.info? 91).map (fun i => (i.zero, i.size, i.bytes)) = some (some (.agg #[.int .i64 0, .int .i64 0, .int .i64 0]), 3, 24) := by kernel_rfl
theorem answer_info : ∃ i, Try.prog.info? 91 = some i ∧ i.zero = some (.agg #[.int .i64 0, .int .i64 0, .int .i64 0]) ∧ i.size = 3 ∧ i.bytes = 24 := by
  obtain ⟨i, hi, he⟩ := Option.map_eq_some_iff.1 info_answer
  simp only [Prod.mk.injEq] at he
  exact ⟨i, hi, he.1, he.2.1, he.2.2⟩
theorem undrewF {S : Nat → Prop} {w w' : World} (h : Fu S w.drew w') : Fu S w w' := ⟨h.os, h.tape, h.output, h.size, h.block⟩
theorem axs_snoc (l : List An) (y : An) : axs (l ++ [y]) = axs l ++ [.int .i64 y.a, .int .i64 y.k, .int .i64 y.id] := by rw [axs, axs, List.map_append]; exact ods_snoc _ _
section
variable (w : World)
set_option maxRecDepth 100000 in
set_option maxHeartbeats 8000000 in
theorem worder_ (B : Nat) (P : Nat → Prop) (wb cg : Nat) (gs : Nat → Nat) (av ov xv iv : Value) (W : Wd) (h : WmX w B P wb cg gs av ov xv iv W) {N : Nat} (hL : Lim N W) (hN : N ≤ 100000) (x : Odr) (hi : I64 x.id) :
    Calls Try.prog 51 #[.pointer (some ⟨wb, 0, none⟩), .agg #[.int .i64 x.a, .int .i64 x.k, .int .i64 x.id]] w fun r w' => WdoA B P wb cg gs av (wOrd W x) w w' r := by
  have hba : Below w.heap.size w (w.alloc (.cells #[.int .i64 x.a, .int .i64 x.k, .int .i64 x.id] 74)) := (Below.refl _ _).alloc (Nat.le_refl _) _
  have hbd : Blk (w.alloc (.cells #[.int .i64 x.a, .int .i64 x.k, .int .i64 x.id] 74)) w.heap.size 74 #[.int .i64 x.a, .int .i64 x.k, .int .i64 x.id] := Blk.new w _ _ rfl
  have hwl := h.lt
  have hlow := h.low
  have h1 := h.keep hba
  have hB1 : Fr B P w (w.alloc (.cells #[.int .i64 x.a, .int .i64 x.k, .int .i64 x.id] 74)) := Fr.ofBelow hba
  obtain ⟨w1, hw1⟩ : ∃ w1, w.alloc (.cells #[.int .i64 x.a, .int .i64 x.k, .int .i64 x.id] 74) = w1 := ⟨_, rfl⟩
  have hs1 : w1.heap.size = w.heap.size + 1 := by rw [← hw1]; simp
  obtain ⟨gd, hgd⟩ : ∃ g, w.heap.size = g := ⟨_, rfl⟩
  have Hw := Lib.hid hw1
  have Hg := Lib.hid hgd
  rw [hw1] at hbd h1 hB1
  rw [hgd] at hbd hs1
  have hgw : gd ≠ wb := by have := hwl.1; omega
  have hgg : ∀ i, i < W.g.length → gd ≠ gs i ∧ gd ≠ gs i + 1 := fun i hi => by have := hwl.2.2 i hi; omega
  obtain ⟨c0, c1, c2, c3, c4⟩ := h1.cs
  obtain ⟨AA, cA, hav, hcA, hmA, hnA⟩ := own_form h1.ptrs
  obtain ⟨AX, cX, hxv, hcX, hmX, hnX⟩ := own_form h1.ax
  obtain ⟨n, hn⟩ : ∃ n, W.g.length = n := ⟨_, rfl⟩
  rw [hn] at hav
  rw [hav] at c1
  obtain ⟨m, hm⟩ : ∃ m, W.ax.length = m := ⟨_, rfl⟩
  rw [hm] at hxv
  have hm300 : m ≤ 300 := by have := hL.ax; omega
  have hn5 : n ≤ 5 := by have := hL.g; omega
  have Hn := Lib.hid hn
  have Hm := Lib.hid hm
  have Hav := Lib.hid hav
  have Hxv := Lib.hid hxv
  have d0 := hbd.cell (j := 0) (u := .int .i64 x.a) rfl
  have d1 := hbd.cell (j := 1) (u := .int .i64 x.k) rfl
  have d2 := hbd.cell (j := 2) (u := .int .i64 x.id) rfl
  have H1 := Lib.hid h1
  have HL := Lib.hid hL
  have HR := Lib.hid (show wOrd W x = if x.a < 0 ∨ (W.g.length : Int) ≤ x.a then W else { wAg W x.a.toNat (ordS (W.g.getD x.a.toNat ag0) x.k x.id) with ax := if W.ax.length < 300 then W.ax ++ [⟨x.a, ordK (W.g.getD x.a.toNat ag0) x.k x.id, x.id⟩] else W.ax } from rfl)
  clear h h1 hL hba hav hxv hn hm hw1 hgd c0 c2 c4
  by_cases ha : x.a < 0
  · have t0 : decide (x.a < 0) = true := decide_eq_true ha
    have HE := Lib.hid (show wOrd W x = W by rw [HR.out, if_pos (.inl ha)])
    go_enter Try.func51, Try.ntmps51
    go_wp2_with fail
    rw [Hw.out, Hg.out]
    go_quiet (fail)
    go_wp2
    refine bodyPost_ret (results_none rfl _ _ _) rfl ?_
    rw [HE.out]
    exact ⟨_, _, _, rfl, H1.out.keep (by first | exact below_drew (Below.refl _ _) | exact below_drewN (Below.refl _ _) _), by first | exact hB1.drew | exact hB1.drewN _⟩
  · have t0 : decide (x.a < 0) = false := decide_eq_false ha
    by_cases hb : (n : Int) ≤ x.a
    · have t1 : decide ((n : Int) ≤ x.a) = true := decide_eq_true hb
      have HE := Lib.hid (show wOrd W x = W by rw [HR.out, if_pos (.inr (by rw [Hn.out]; exact hb))])
      go_enter Try.func51, Try.ntmps51
      go_wp2_with fail
      rw [Hw.out, Hg.out]
      go_quiet (fail)
      go_wp2
      refine bodyPost_ret (results_none rfl _ _ _) rfl ?_
      rw [HE.out]
      exact ⟨_, _, _, rfl, H1.out.keep (by first | exact below_drew (Below.refl _ _) | exact below_drewN (Below.refl _ _) _), by first | exact hB1.drew | exact hB1.drewN _⟩
    · have t1 : decide ((n : Int) ≤ x.a) = false := decide_eq_false hb
      obtain ⟨i, hai⟩ : ∃ i : Nat, x.a = (i : Int) := ⟨x.a.toNat, by omega⟩
      have hin : i < n := by omega
      have hig : i < W.g.length := by rw [Hn.out]; exact hin
      obtain ⟨s, hs⟩ : ∃ s, W.g.getD i ag0 = s := ⟨_, rfl⟩
      have hA := H1.out.at_ hig
      rw [hs] at hA
      have hcm : s.cm.length ≤ N := HL.out.cm s (by rw [← hs]; exact List.mem_of_getElem? (getD_some hig))
      have hT : x.a.toNat = i := by omega
      obtain ⟨R, hR⟩ : ∃ R, ordK s x.k x.id = R := ⟨_, rfl⟩
      obtain ⟨s', hs'⟩ : ∃ s', ordS s x.k x.id = s' := ⟨_, rfl⟩
      have HE := Lib.hid (show wOrd W x = { wAg W i s' with ax := if m < 300 then W.ax ++ [⟨x.a, R, x.id⟩] else W.ax } by rw [HR.out, if_neg (by rw [Hn.out]; omega), hT, hs, hR, hs', Hm.out])
      have hO : ∀ p, Calls Try.prog 13 #[.pointer (some ⟨gs i + 1, 0, none⟩), .int .i64 x.k, .int .i64 x.id] (w1.drewN p) (fun r w' => r = .returned (.int .i64 R) ∧ AgX w' (gs i) s' ∧ Fu (fun k => k = gs i ∨ k = gs i + 1) w1 w') := fun p => by
        have := order_ (w1.drewN p) (gs i) s (hA.drewN p) x.k x.id hi (by omega)
        rw [hR, hs'] at this
        refine this.mono ?_
        rintro r w' ⟨e1, e2, e3⟩
        exact ⟨e1, e2, ⟨e3.os, e3.tape, e3.output, e3.size, e3.block⟩⟩
      obtain ⟨pb, po, rfl, cp⟩ := H1.out.ptr Hav.out Hn.out.symm hin
      have hpg := H1.out.ptrsK (g := pb) (by rw [Hav.out]; rfl)
      have hil : (i : Int) < (n : Int) := by omega
      have hi0 : (0 : Int) ≤ (i : Int) := by omega
      obtain ⟨xa, xk, xid⟩ := x
      simp only at hai hi hO HE d0 d1 d2 t0 t1 hbd Hw ⊢
      subst hai
      have hgi := hgg i hig
      have hwi := H1.out.wbA hig
      clear ha hb hA hs hR hs' hT HR
      go_enter Try.func51, Try.ntmps51
      go_wp2_with fail
      rw [Hw.out, Hg.out]
      go_quiet (fail)
      go_wp2_with fail
      go_region_held3 (fun w' => w'.cell? ⟨wb, 1, none⟩ = some (.slice (some ⟨pb, po, none⟩) n cA) ∧ w'.cell? ⟨gd, 0, none⟩ = some (.int .i64 (i : Int)) ∧ w'.cell? ⟨gd, 1, none⟩ = some (.int .i64 xk) ∧ w'.cell? ⟨gd, 2, none⟩ = some (.int .i64 xid) ∧ w'.cell? ⟨pb, po + i, none⟩ = some (.pointer (some ⟨gs i + 1, 0, none⟩)))
        (first | go_keep | exact ⟨c1, d0, d1, d2, cp⟩ | exact ⟨fu_cell hF4 c1 (by simp only; omega), fu_cell hF4 d0 (by simp only; omega), fu_cell hF4 d1 (by simp only; omega), fu_cell hF4 d2 (by simp only; omega), fu_cell hF4 cp (by simp only; have := hpg.2.2.2.1 i hig; omega)⟩)
        (first | (go_at_call 13; refine (hO _).mono ?_; rintro r w4 ⟨rfl, hA4, hF4⟩))
      obtain ⟨h4, hb4⟩ := H1.out.agTo hig hA4 hF4
      have hB4 := hB1.trans hb4
      have e3 := h4.cs.2.2.2.1
      rw [Hxv.out] at e3
      have e0 := fu_cell hF4 d0 (by simp only; omega)
      have e2 := fu_cell hF4 d2 (by simp only; omega)
      have hgl4 : gd < w4.heap.size := by have := hF4.size; omega
      have H4 := Lib.hid h4
      have hdn : ∀ (V : World), Below w4.heap.size w4 V → True := fun _ _ => trivial
      clear hA4 hF4 hO c1 c3 d0 d1 d2 cp hbd h4 hb4 hdn
      by_cases hm3 : m < 300
      · have hm3i : (m : Int) < 300 := by omega
        rw [if_pos hm3] at HE
        obtain ⟨i0, hi0', hz0, hz1, hz2⟩ := answer_info
        have Hz := Lib.hid hz2
        clear hz2
        have hox : w4.ownsRow B 91 3 (.slice AX m cX) m (axs W.ax) := by have := H4.out.ax; rw [Hxv.out] at this; rw [← Hm.out]; rw [← Hm.out] at this; exact this
        have hba : Below w4.heap.size w4 (w4.drew.alloc (.cells #[.int .i64 (i : Int), .int .i64 R, .int .i64 xid] 91)) := (below_drew (Below.refl _ _)).alloc (Nat.le_refl _) _
        have hoa := own_keep hox hba
        have hrd : Rd (w4.drew.alloc (.cells #[.int .i64 (i : Int), .int .i64 R, .int .i64 xid] 91)) (some ⟨w4.heap.size, 0, none⟩) 3 1 [.int .i64 (i : Int), .int .i64 R, .int .i64 xid] := Rd.new w4.drew #[.int .i64 (i : Int), .int .i64 R, .int .i64 xid] 91 (0, 0) (sz := 3) (n := 1) rfl
        have hone : ∀ u ∈ [Value.int .i64 (i : Int), .int .i64 R, .int .i64 xid], u.oneCell' = true := odv_one ⟨(i : Int), R, xid⟩
        have z3 : m + 1 ≤ maxLen := by unfold maxLen; omega
        have z4 : (m + 1) * 24 ≤ 140737488355328 := by omega
        have hbs : B ≤ (w4.drew.alloc (.cells #[.int .i64 (i : Int), .int .i64 R, .int .i64 xid] 91)).heap.size := by simp; omega
        have e3a : (w4.drew.alloc (.cells #[.int .i64 (i : Int), .int .i64 R, .int .i64 xid] 91)).cell? ⟨wb, 3, none⟩ = some (.slice AX m cX) := (hba.cell (cell_lt e3)).trans e3
        have e0a := (hba.cell (cell_lt e0)).trans e0
        have e2a := (hba.cell (cell_lt e2)).trans e2
        have e3b : (w4.alloc (.cells #[.int .i64 (i : Int), .int .i64 R, .int .i64 xid] 91)).cell? ⟨wb, 3, none⟩ = some (.slice AX m cX) := e3a
        have e0b : (w4.alloc (.cells #[.int .i64 (i : Int), .int .i64 R, .int .i64 xid] 91)).cell? ⟨gd, 0, none⟩ = some (.int .i64 (i : Int)) := e0a
        have e2b : (w4.alloc (.cells #[.int .i64 (i : Int), .int .i64 R, .int .i64 xid] 91)).cell? ⟨gd, 2, none⟩ = some (.int .i64 xid) := e2a
        have hka := H4.out.blk.keep hba
        have hsz4 := Lib.hid (show w4.heap.size ≤ (w4.drew.alloc (.cells #[.int .i64 (i : Int), .int .i64 R, .int .i64 xid] 91)).heap.size by simp)
        have hfa : Fu (fun k => xv.ownBlock = some k) w4 (w4.drew.alloc (.cells #[.int .i64 (i : Int), .int .i64 R, .int .i64 xid] 91)) := Fu.ofBelow hba
        have hxb : ∀ k, (Value.slice AX m cX).ownBlock = some k → xv.ownBlock = some k := fun k hk => by rw [Hxv.out]; exact hk
        have hwx : ∀ k, xv.ownBlock = some k → k ≠ wb := fun k hk => (H4.out.axK hk).1
        clear hba
        go_wp2_with fail
        go_region_law (first
          | (refine step_app _ rfl (.tmp 41) (.tmp 48) _ rfl B 91 i0 _ 3 24 Try.underlying70 hi0' hz0 hz1 Hz.out rfl (by omega) (.slice AX m cX) m _ rfl hoa (some ⟨w4.heap.size, 0, none⟩) 1 1 [.int .i64 (i : Int), .int .i64 R, .int .i64 xid] rfl (fun h => by cases h) hrd hone z3 z4 hbs ?_
             intro v5 w6 hown5 hg5 hat5
             obtain ⟨A6, c6, rfl, hc6, hm6, hn6⟩ := own_form hown5
             have hk6 := hka.grown hg5 (fun q => hwx wb (hxb wb q.symm) rfl)
             have k3 : w6.cell? ⟨wb, 3, none⟩ = some (.slice AX m cX) := by rw [← Hxv.out]; exact hk6.cell rfl
             have f3 := hk6.free 3))
        all_goals (
          have hf6 : Fu (fun k => xv.ownBlock = some k) w4 w6 := hfa.step hg5 (fun k q => .inl (hxb k q))
          have hT := H4.out.axTo (w2 := w6) (v' := .slice A6 (m + 1) c6) (l := W.ax ++ [⟨(i : Int), R, xid⟩]) hf6 (by rw [axs_snoc, List.length_append, Hm.out]; exact hown5) (fun g q => by
            rcases hat5 with e | e
            · left; rw [e] at q; exact hxb g q
            · right; rw [e] at q; injection q with q; exact Nat.le_trans hsz4.out (Nat.le_of_eq q))
          go_end0
          rw [HE.out]
          exact ⟨_, _, _, rfl, hT.1, hB4.trans hT.2⟩)
      · have hm3i : ¬ (m : Int) < 300 := by omega
        rw [if_neg hm3] at HE
        go_wp2
        go_end0
        rw [HE.out]
        exact ⟨_, _, _, rfl, H4.out, hB4⟩
end
end Bar
end Go.Proofs.Ytpjbeodnalgkfaa
