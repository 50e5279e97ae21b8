/- Layer 17: what happens, in memory: Begin, crashes, an abort. -/
import Derived.Test.YtpjbeodnalgkfaaBarX
set_option linter.all false
namespace Go.Proofs.Ytpjbeodnalgkfaa
open Go.RowKit
namespace Bar
theorem cm_len (a : Ag) (k id : Int) : (ordS a k id).cm.length ≤ a.cm.length + 1 := by
  unfold ordS
  split
  · omega
  · split
    · split <;> simp
    · split
      · split <;> simp
      · split
        · split <;> simp
        · split
          · split <;> simp
          · omega
theorem and1 (z : Int) : ∃ s : Bool, bits .and .i64 z 1 = ((if s then 1 else 0 : Nat) : Int) := by
  have h : ∀ q : Nat, q ≤ 1 → IntKind.i64.wrap (q : Int) = (q : Int) := fun q hq => by rw [IntKind.wrap_i64]; omega
  unfold bits
  simp only [BitVec.toNat_and, BitVec.toNat_ofInt]
  have e : ((1 : Int) % ((2 ^ IntKind.i64.bits : Nat) : Int)).toNat = 1 := by decide
  rw [e, h _ Nat.and_le_right]
  have hl := Nat.and_le_right (n := (z % ((2 ^ IntKind.i64.bits : Nat) : Int)).toNat) (m := 1)
  rcases Nat.le_one_iff_eq_zero_or_eq_one.1 hl with q | q
  · exact ⟨false, by rw [q]; rfl⟩
  · exact ⟨true, by rw [q]; rfl⟩
def oddB (z : Int) : Bool := decide (bits .and .i64 z 1 = 1)
theorem odd_is (z : Int) : bits .and .i64 z 1 = ((if oddB z then 1 else 0 : Nat) : Int) := by
  obtain ⟨s, hs⟩ := and1 z
  unfold oddB
  rw [hs]
  cases s <;> rfl
theorem mod8 {kd r : Nat} (h : kd % 8 = r) (j : Int) : ((kd : Int) % 8 == j) = decide (j = (r : Int)) := by
  by_cases e : j = (r : Int)
  · subst e; simp; omega
  · rw [decide_eq_false e, beq_eq_false_iff_ne]; omega
def wDo (W : Wd) (d : Dod) : Wd := match d.kd % 8 with
  | 0 => wBeg W d.id
  | 1 => wStep W
  | 2 => wDel W d.i
  | 3 => wTwo W d.i
  | 4 => wLose W d.i
  | 5 => wHear W d.i
  | 6 => wCrA W d.i
  | _ => if oddB d.id then wAb W else wCr W
theorem CdA.undrew {w w' : World} {p g : Nat} {U : Nat → Prop} {c : Co} (h : CdA (w.drewN p) w' g U c) : CdA w w' g U c := ⟨h.1, h.2.os, h.2.tape, h.2.output, h.2.size, h.2.block⟩
theorem undrewG {w w' : World} {r : Option Nat} (h : w.drew.grownBy w' r) : w.grownBy w' r := ⟨h.os, h.tape, h.output, h.size, h.block⟩
theorem ods_erase {L : List Odr} {k : Nat} : ods (L.take k) ++ ods (L.drop (k + 1)) = ods (L.eraseIdx k) := by rw [List.eraseIdx_eq_take_drop_succ, ods_app]
theorem axs_erase {L : List An} {k : Nat} : ods ((L.map toO).take k) ++ ods ((L.map toO).drop (k + 1)) = axs (L.eraseIdx k) := by
  rw [axs, List.eraseIdx_eq_take_drop_succ, List.map_append, List.map_take, List.map_drop, ods_app]
theorem Lim.eraseO {N : Nat} {W : Wd} (h : Lim N W) (k : Nat) : Lim N { W with os := W.os.eraseIdx k } :=
  ⟨Nat.le_trans (by show (W.os.eraseIdx k).length ≤ _; exact List.length_eraseIdx_le _ _) h.os, h.ax, h.ids, h.cm, h.g, fun o ho => h.osI o (List.mem_of_mem_eraseIdx ho), h.idsI, h.n⟩
theorem Lim.ord {N : Nat} {W : Wd} (h : Lim N W) (x : Odr) : Lim (N + 1) (wOrd W x) := by
  unfold wOrd
  split
  · exact ⟨h.os, h.ax, Nat.le_succ_of_le h.ids, fun a ha => Nat.le_succ_of_le (h.cm a ha), h.g, h.osI, h.idsI, h.n⟩
  · rename_i hx
    have hlt : x.a.toNat < W.g.length := by omega
    refine ⟨h.os, ?_, Nat.le_succ_of_le h.ids, fun a ha => ?_, by show (W.g.set _ _).length ≤ 5; rw [List.length_set]; exact h.g, h.osI, h.idsI, by show _ = (W.g.set _ _).length; rw [List.length_set]; exact h.n⟩
    · have := h.ax
      simp only
      split
      · rw [List.length_append]; simp; omega
      · exact this
    · have ha : a ∈ W.g.set x.a.toNat (ordS (W.g.getD x.a.toNat ag0) x.k x.id) := ha
      rcases List.mem_or_eq_of_mem_set ha with q | q
      · exact Nat.le_succ_of_le (h.cm a q)
      · rw [q]
        exact Nat.le_trans (cm_len _ _ _) (Nat.succ_le_succ (h.cm _ (List.mem_of_getElem? (getD_some hlt))))
theorem Lim.succ {N : Nat} {W : Wd} (h : Lim N W) : Lim (N + 1) W := ⟨h.os, h.ax, Nat.le_succ_of_le h.ids, fun a ha => Nat.le_succ_of_le (h.cm a ha), h.g, h.osI, h.idsI, h.n⟩
theorem hear_len (c : Co) (a k x : Int) : (hearS c a k x).ans.length = c.ans.length := by
  unfold hearS
  split
  · rfl
  · split
    · simp [turnC]
    · split
      · rfl
      · split
        · rw [go_set]; unfold goOn; split
          · simp [turnC]
          · exact (ends_ph c).2.2
        · simp [setC]
theorem Lim.co {N : Nat} {W : Wd} (h : Lim N W) {c' : Co} (hc : c'.ans.length = W.c.ans.length) : Lim N { W with c := c' } := ⟨h.os, h.ax, h.ids, h.cm, h.g, h.osI, h.idsI, hc.trans h.n⟩
theorem Lim.cr {N : Nat} {W : Wd} (h : Lim N W) {i : Nat} (hi : i < W.g.length) : Lim N (wAg W i (crA (W.g.getD i ag0))) :=
  ⟨h.os, h.ax, h.ids, fun a ha => by
    rcases List.mem_or_eq_of_mem_set ha with q | q
    · exact h.cm a q
    · rw [q]; show (W.g.getD i ag0).cm.length ≤ N; exact h.cm _ (List.mem_of_getElem? (getD_some hi)), by show (W.g.set _ _).length ≤ 5; rw [List.length_set]; exact h.g, h.osI, h.idsI, by show _ = (W.g.set _ _).length; rw [List.length_set]; exact h.n⟩
theorem beg_len (c : Co) (x : Int) : (begS c x).ans.length = c.ans.length := by unfold begS; split <;> simp [turnC]
theorem ab_len (c : Co) : (abS c).ans.length = c.ans.length := by unfold abS; split <;> simp [turnC]
theorem cr_len (c : Co) : (crS c).ans.length = c.ans.length := by unfold crS; split <;> simp [turnC]
theorem stepL_len (c : Co) : (stepL c).length ≤ c.ans.length := by rw [step_open, List.length_map]; exact openI_len c
theorem stepL_id {c : Co} {o : Odr} (h : o ∈ stepL c) : o.id = c.id := by
  rw [step_open] at h
  obtain ⟨z, _, rfl⟩ := List.mem_map.1 h
  rfl
/-- Each step keeps the bounds, one more. -/
theorem Lim.do {N : Nat} {W : Wd} (h : Lim N W) (hc : I64 W.c.id) (d : Dod) (hd : I64 d.id) : Lim (N + 1) (wDo W d) := by
  unfold wDo
  split
  · unfold wBeg
    split
    · have h2 := h.succ.co (c' := begS W.c d.id) (beg_len _ _)
      refine ⟨h2.os, h2.ax, ?_, h2.cm, h2.g, h2.osI, fun x hx => ?_, h2.n⟩
      · have := h.ids
        simp only [List.length_append, List.length_singleton]
        omega
      · rcases List.mem_append.1 hx with q | q
        · exact h.idsI x q
        · rw [List.mem_singleton.1 q]; exact hd
    · exact h.succ
  · unfold wStep
    split
    · rename_i h3
      have h2 := h.succ
      refine ⟨?_, h2.ax, h2.ids, h2.cm, h2.g, fun o ho => ?_, h2.idsI, h2.n⟩
      · have h4 := stepL_len W.c
        have h5 := h.g
        have h6 := h.n
        simp only [List.length_append]
        omega
      · rcases List.mem_append.1 ho with q | q
        · exact h.osI o q
        · rw [stepL_id q]; exact hc
    · exact h.succ
  · unfold wDel
    split
    · exact (h.eraseO _).ord _
    · exact h.succ
  · unfold wTwo
    split
    · exact h.ord _
    · exact h.succ
  · unfold wLose
    split
    · exact (h.eraseO _).succ
    · exact h.succ
  · unfold wHear
    split
    · have h2 := h.succ.co (c' := hearS W.c (W.ax.getD d.i.toNat ⟨0, 0, 0⟩).a (W.ax.getD d.i.toNat ⟨0, 0, 0⟩).k (W.ax.getD d.i.toNat ⟨0, 0, 0⟩).id) (hear_len _ _ _ _)
      exact ⟨h2.os, Nat.le_trans (List.length_eraseIdx_le _ _) h2.ax, h2.ids, h2.cm, h2.g, h2.osI, h2.idsI, h2.n⟩
    · exact h.succ
  · unfold wCrA
    split
    · rename_i hi
      exact h.succ.cr (hasI_lt hi)
    · exact h.succ
  · split
    · exact h.succ.co (ab_len _)
    · exact h.succ.co (cr_len _)
theorem Cd.idr {w : World} {g : Nat} {U : Nat → Prop} {c : Co} (h : Cd w g U c) : I64 c.id := by obtain ⟨⟨A, n, cp, hX⟩, _⟩ := h; exact hX.idr
section
variable (w : World)
set_option maxRecDepth 100000 in
set_option maxHeartbeats 8000000 in
theorem wdo7_ (B : Nat) (P : Nat → Prop) (wb cg : Nat) (gs : Nat → Nat) (av ov xv iv : Value) (W : Wd) (h : WmX w B P wb cg gs av ov xv iv W) {N : Nat} (hL : Lim N W) (hN : N ≤ 100000) (d : Dod) (hF : DoF d) (hkd : d.kd % 8 = 7) :
    Calls Try.prog 36 #[.pointer (some ⟨wb, 0, none⟩), .agg (doa d)] w fun r w' => WdoA B P wb cg gs av (wDo W d) w w' r := by
  have hba : Below w.heap.size w (w.alloc (.cells (doa d) 66)) := (Below.refl _ _).alloc (Nat.le_refl _) _
  have hbd : Blk (w.alloc (.cells (doa d) 66)) w.heap.size 66 (doa d) := Blk.new w _ _ rfl
  have hwl := h.lt
  have hlow := h.low
  have h1 := h.keep hba
  have hB1 : Fr B P w (w.alloc (.cells (doa d) 66)) := Fr.ofBelow hba
  obtain ⟨w1, hw1⟩ : ∃ w1, w.alloc (.cells (doa d) 66) = w1 := ⟨_, rfl⟩
  have hs1 : w1.heap.size = w.heap.size + 1 := by rw [← hw1]; simp
  obtain ⟨gd, hgd⟩ : ∃ g, w.heap.size = g := ⟨_, rfl⟩
  have Hw := Lib.hid hw1
  have Hg := Lib.hid hgd
  rw [hw1] at hbd h1 hB1
  rw [hgd] at hbd hs1
  have hgl : gd < w1.heap.size := by omega
  have hgw : gd ≠ wb := by have := hwl.1; omega
  have hgc : gd ≠ cg ∧ gd ≠ cg + 1 := by have := hwl.2.1; omega
  have hgg : ∀ i, i < W.g.length → gd ≠ gs i ∧ gd ≠ gs i + 1 := fun i hi => by have := hwl.2.2 i hi; omega
  obtain ⟨kk, hkk⟩ : ∃ k, d.kd = k := ⟨_, rfl⟩
  have t0 : ((d.kd : Int) % 8 == 0) = false := by rw [mod8 hkd]; decide
  have t1 : ((d.kd : Int) % 8 == 1) = false := by rw [mod8 hkd]; decide
  have t2 : ((d.kd : Int) % 8 == 2) = false := by rw [mod8 hkd]; decide
  have t3 : ((d.kd : Int) % 8 == 3) = false := by rw [mod8 hkd]; decide
  have t4 : ((d.kd : Int) % 8 == 4) = false := by rw [mod8 hkd]; decide
  have t5 : ((d.kd : Int) % 8 == 5) = false := by rw [mod8 hkd]; decide
  have t6 : ((d.kd : Int) % 8 == 6) = false := by rw [mod8 hkd]; decide
  have hkl : (d.kd : Int) < 256 := by have := hF.kd; omega
  have hkn : (0 : Int) ≤ (d.kd : Int) := by omega
  have hI := hF.id
  have d0 := hbd.cell (j := 0) (u := .int .u8 (d.kd : Int)) rfl
  have d1 := hbd.cell (j := 1) (u := .int .i64 d.id) rfl
  have d2 := hbd.cell (j := 2) (u := .int .i64 d.i) rfl
  obtain ⟨c0, c1, c2, c3, c4⟩ := h1.cs
  have hwc := h1.wbC
  have H1 := Lib.hid h1
  have HL := Lib.hid hL
  have hWD := Lib.hid (show wDo W d = if oddB d.id then wAb W else wCr W from by unfold wDo; rw [hkd]; try rfl)
  have hod := odd_is d.id
  have hAb : ∀ p, Calls Try.prog 28 #[.pointer (some ⟨cg + 1, 0, none⟩)] (w1.drewN p) fun r w' => r = .returned (.int .i64 (abE W.c)) ∧ CdA w1 w' cg (Nm w1 wb cg gs W.g.length av ov xv iv) (abS W.c) := fun p => by
    refine (cabort_ (w1.drewN p) cg _ W.c (H1.out.co.drewN p)).mono ?_
    rintro r w' ⟨e1, e2⟩
    exact ⟨e1, e2.undrew⟩
  have hCr : ∀ p, Calls Try.prog 30 #[.pointer (some ⟨cg + 1, 0, none⟩)] (w1.drewN p) fun r w' => r = .returned (.tuple #[]) ∧ CdA w1 w' cg (Nm w1 wb cg gs W.g.length av ov xv iv) (crS W.c) := fun p => by
    refine (ccrash_ (w1.drewN p) cg _ W.c (H1.out.co.drewN p)).mono ?_
    rintro r w' ⟨e1, e2⟩
    exact ⟨e1, e2.undrew⟩
  have c0' : (w.alloc (.cells (doa d) 66)).cell? ⟨wb, 0, none⟩ = some (.pointer (some ⟨cg + 1, 0, none⟩)) := by rw [hw1]; exact c0
  clear h h1 hL hba hw1 hgd hkk hkd hF
  cases hb : oddB d.id with
  | true =>
    rw [hb] at hod
    simp only [if_true] at hod
    have hWE := Lib.hid (show wDo W d = wAb W by rw [hWD.out, hb]; rfl)
    clear hb hWD hCr
    go_enter Try.func36, Try.ntmps36
    go_wp2_with fail
    rw [Hw.out, Hg.out]
    refine (hAb 0).mono ?_
    rintro r w2 ⟨rfl, hA⟩
    obtain ⟨h2, hB2⟩ := H1.out.coTo hA
    go_wp2
    go_end0
    rw [hWE.out]
    exact ⟨_, _, _, rfl, h2, hB1.trans hB2⟩
  | false =>
    rw [hb] at hod
    simp only [Bool.false_eq_true, if_false] at hod
    have hWE := Lib.hid (show wDo W d = wCr W by rw [hWD.out, hb]; rfl)
    clear hb hWD hAb
    go_enter Try.func36, Try.ntmps36
    go_wp2_with fail
    rw [Hw.out, Hg.out]
    refine (hCr 0).mono ?_
    rintro r w2 ⟨rfl, hA⟩
    obtain ⟨h2, hB2⟩ := H1.out.coTo hA
    go_wp2
    go_end0
    rw [hWE.out]
    exact ⟨_, _, _, rfl, h2, hB1.trans hB2⟩
set_option maxRecDepth 100000 in
set_option maxHeartbeats 8000000 in
theorem wdo6_ (B : Nat) (P : Nat → Prop) (wb cg : Nat) (gs : Nat → Nat) (av ov xv iv : Value) (W : Wd) (h : WmX w B P wb cg gs av ov xv iv W) {N : Nat} (hL : Lim N W) (hN : N ≤ 100000) (d : Dod) (hF : DoF d) (hkd : d.kd % 8 = 6) :
    Calls Try.prog 36 #[.pointer (some ⟨wb, 0, none⟩), .agg (doa d)] w fun r w' => WdoA B P wb cg gs av (wDo W d) w w' r := by
  have hba : Below w.heap.size w (w.alloc (.cells (doa d) 66)) := (Below.refl _ _).alloc (Nat.le_refl _) _
  have hbd : Blk (w.alloc (.cells (doa d) 66)) w.heap.size 66 (doa d) := Blk.new w _ _ rfl
  have hwl := h.lt
  have hlow := h.low
  have h1 := h.keep hba
  have hB1 : Fr B P w (w.alloc (.cells (doa d) 66)) := Fr.ofBelow hba
  obtain ⟨w1, hw1⟩ : ∃ w1, w.alloc (.cells (doa d) 66) = w1 := ⟨_, rfl⟩
  have hs1 : w1.heap.size = w.heap.size + 1 := by rw [← hw1]; simp
  obtain ⟨gd, hgd⟩ : ∃ g, w.heap.size = g := ⟨_, rfl⟩
  have Hw := Lib.hid hw1
  have Hg := Lib.hid hgd
  rw [hw1] at hbd h1 hB1
  rw [hgd] at hbd hs1
  have hgl : gd < w1.heap.size := by omega
  have hgw : gd ≠ wb := by have := hwl.1; omega
  have hgc : gd ≠ cg ∧ gd ≠ cg + 1 := by have := hwl.2.1; omega
  have hgg : ∀ i, i < W.g.length → gd ≠ gs i ∧ gd ≠ gs i + 1 := fun i hi => by have := hwl.2.2 i hi; omega
  obtain ⟨kk, hkk⟩ : ∃ k, d.kd = k := ⟨_, rfl⟩
  have t0 : ((d.kd : Int) % 8 == 0) = false := by rw [mod8 hkd]; decide
  have t1 : ((d.kd : Int) % 8 == 1) = false := by rw [mod8 hkd]; decide
  have t2 : ((d.kd : Int) % 8 == 2) = false := by rw [mod8 hkd]; decide
  have t3 : ((d.kd : Int) % 8 == 3) = false := by rw [mod8 hkd]; decide
  have t4 : ((d.kd : Int) % 8 == 4) = false := by rw [mod8 hkd]; decide
  have t5 : ((d.kd : Int) % 8 == 5) = false := by rw [mod8 hkd]; decide
  have t6 : ((d.kd : Int) % 8 == 6) = true := by rw [mod8 hkd]; decide
  have hkl : (d.kd : Int) < 256 := by have := hF.kd; omega
  have hkn : (0 : Int) ≤ (d.kd : Int) := by omega
  have hI := hF.id
  have d0 := hbd.cell (j := 0) (u := .int .u8 (d.kd : Int)) rfl
  have d1 := hbd.cell (j := 1) (u := .int .i64 d.id) rfl
  have d2 := hbd.cell (j := 2) (u := .int .i64 d.i) rfl
  obtain ⟨c0, c1, c2, c3, c4⟩ := h1.cs
  have hwc := h1.wbC
  have H1 := Lib.hid h1
  have HL := Lib.hid hL
  have hWD := Lib.hid (show wDo W d = wCrA W d.i from by unfold wDo; rw [hkd]; try rfl)
  obtain ⟨AA, cA, hav, hcA, hmA, hnA⟩ := own_form h1.ptrs
  obtain ⟨n, hn⟩ : ∃ n, W.g.length = n := ⟨_, rfl⟩
  rw [hn] at hav
  rw [hav] at c1
  have Hn := Lib.hid hn
  have Hav := Lib.hid hav
  have hn5 : n ≤ 5 := by have := hL.g; omega
  clear h h1 hL hba hw1 hgd hkk hkd hF hav c0 c2 c3 c4 hcA hmA hnA
  by_cases ha : 0 ≤ d.i ∧ d.i < (n : Int)
  · have t8 : decide (0 ≤ d.i) = true := decide_eq_true ha.1
    have t9 : decide (d.i < (n : Int)) = true := decide_eq_true ha.2
    obtain ⟨i, hai⟩ : ∃ i : Nat, d.i = (i : Int) := ⟨d.i.toNat, by omega⟩
    have hin : i < n := by omega
    have hig : i < W.g.length := by rw [hn]; exact hin
    have hA := H1.out.at_ hig
    have hWE := Lib.hid (show wDo W d = wAg W i (crA (W.g.getD i ag0)) by
      rw [hWD.out]
      unfold wCrA
      rw [if_pos (by simp [hasI]; omega), hai, Int.toNat_natCast])
    have hC : ∀ p, Calls Try.prog 12 #[.pointer (some ⟨gs i + 1, 0, none⟩)] (w1.drewN p) (fun r w' => r = .returned (.tuple #[]) ∧ AgX w' (gs i) (crA (W.g.getD i ag0)) ∧ Fu (fun k => k = gs i ∨ k = gs i + 1) w1 w') := fun p => by
      refine (acrash_ (w1.drewN p) (gs i) _ (hA.drewN p)).mono ?_
      rintro r w' ⟨e1, e2, e3⟩
      exact ⟨e1, e2, ⟨e3.os, e3.tape, e3.output, e3.size, e3.block⟩⟩
    obtain ⟨pb, po, rfl, cp⟩ := H1.out.ptr Hav.out hn.symm hin
    have hpg := H1.out.ptrsK (g := pb) (by rw [Hav.out]; rfl)
    have hil : (i : Int) < (n : Int) := by omega
    have hi0 : (0 : Int) ≤ (i : Int) := by omega
    rw [hai] at d2 t8 t9
    have hgi := hgg i hig
    have hwi := H1.out.wbA hig
    clear ha hA hai hn hWD
    go_enter Try.func36, Try.ntmps36
    go_wp2_with fail
    rw [Hw.out, Hg.out]
    go_quiet (fail)
    go_wp2_with fail
    go_region_held3 (fun w' => w'.cell? ⟨wb, 1, none⟩ = some (.slice (some ⟨pb, po, none⟩) n cA) ∧ w'.cell? ⟨gd, 2, none⟩ = some (.int .i64 (i : Int)) ∧ w'.cell? ⟨pb, po + i, none⟩ = some (.pointer (some ⟨gs i + 1, 0, none⟩)))
      (first | go_keep | exact ⟨c1, d2, cp⟩ | exact ⟨fu_cell hF4 c1 (by simp only; omega), fu_cell hF4 d2 (by simp only; omega), fu_cell hF4 cp (by simp only; have := hpg.2.2.2.1 i hig; omega)⟩)
      (first | (go_at_call 12; refine (hC _).mono ?_; rintro r w4 ⟨rfl, hA4, hF4⟩))
    obtain ⟨h4, hb4⟩ := H1.out.agTo hig hA4 hF4
    go_wp2
    go_end0
    rw [hWE.out]
    exact ⟨_, _, _, rfl, h4, hB1.trans hb4⟩
  · have hWE := Lib.hid (show wDo W d = W by
      rw [hWD.out]
      unfold wCrA
      rw [if_neg (by simp [hasI]; omega)])
    clear hWD
    by_cases ha0 : 0 ≤ d.i
    · have t8 : decide (0 ≤ d.i) = true := decide_eq_true ha0
      have t9 : decide (d.i < (n : Int)) = false := decide_eq_false (by omega)
      clear ha ha0 hn
      go_enter Try.func36, Try.ntmps36
      go_wp2_with fail
      rw [Hw.out, Hg.out]
      go_quiet (fail)
      go_wp2
      go_end0
      rw [hWE.out]
      exact ⟨_, _, _, rfl, H1.out.keep (by first | exact below_drew (Below.refl _ _) | exact below_drewN (Below.refl _ _) _), by first | exact hB1.drew | exact hB1.drewN _⟩
    · have t8 : decide (0 ≤ d.i) = false := decide_eq_false ha0
      clear ha ha0 hn
      go_enter Try.func36, Try.ntmps36
      go_wp2_with fail
      rw [Hw.out, Hg.out]
      go_quiet (fail)
      go_wp2
      go_end0
      rw [hWE.out]
      exact ⟨_, _, _, rfl, H1.out.keep (by first | exact below_drew (Below.refl _ _) | exact below_drewN (Below.refl _ _) _), by first | exact hB1.drew | exact hB1.drewN _⟩
end
end Bar
end Go.Proofs.Ytpjbeodnalgkfaa
