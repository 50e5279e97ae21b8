/- Layer 17: what is taken was frozen (BarrierTaken). No condition. -/
import Derived.Test.YtpjbeodnalgkfaaBarPr
set_option linter.all false
namespace Go.Proofs.Ytpjbeodnalgkfaa
open Go.ChangeShapes Go.WideShapes Go.ChangeAt Go.RowKit
namespace Bar
theorem g_ord {W : Wd} (x : Odr) : (wOrd W x).g.length = W.g.length := by
  unfold wOrd
  split
  · rfl
  · show (W.g.set _ _).length = _
    exact List.length_set
theorem taken_ord {W : Wd} (x : Odr) {i : Nat} {a a' : Ag} (h : W.g[i]? = some a) (h' : (wOrd W x).g[i]? = some a') (h0 : a'.pr ≠ 0) (h1 : a'.pr ≠ a.pr) : a.fz = a'.pr := by
  unfold wOrd at h'
  split at h'
  · rw [h] at h'; injection h' with h'; subst h'; exact absurd rfl h1
  · have hlt : x.a.toNat < W.g.length := by omega
    have h' : (W.g.set x.a.toNat (ordS (W.g.getD x.a.toNat ag0) x.k x.id))[i]? = some a' := h'
    by_cases e : x.a.toNat = i
    · subst e
      rw [List.getElem?_set_self hlt] at h'
      injection h' with h'
      subst h'
      have hd := getD_some (d := ag0) hlt
      rw [h] at hd
      injection hd with hd
      rw [← hd] at h0 h1 ⊢
      exact pr_taken h0 h1
    · rw [List.getElem?_set_ne e, h] at h'
      injection h' with h'; subst h'; exact absurd rfl h1
theorem taken_do {W : Wd} (d : Dod) {i : Nat} {a a' : Ag} (h : W.g[i]? = some a) (h' : (wDo W d).g[i]? = some a') (h0 : a'.pr ≠ 0) (h1 : a'.pr ≠ a.pr) : a.fz = a'.pr := by
  have same : ∀ g : List Ag, g = W.g → g[i]? = some a' → a.fz = a'.pr := fun g e q => by
    rw [e, h] at q; injection q with q; subst q; exact absurd rfl h1
  unfold wDo at h'
  split at h'
  · refine same _ ?_ h'; unfold wBeg; split <;> rfl
  · refine same _ ?_ h'; unfold wStep; split <;> rfl
  · unfold wDel at h'
    split at h'
    · exact taken_ord (W := { W with os := W.os.eraseIdx d.i.toNat }) _ h h' h0 h1
    · exact same _ rfl h'
  · unfold wTwo at h'
    split at h'
    · exact taken_ord _ h h' h0 h1
    · exact same _ rfl h'
  · refine same _ ?_ h'; unfold wLose; split <;> rfl
  · refine same _ ?_ h'; unfold wHear; split <;> rfl
  · unfold wCrA at h'
    split at h'
    · rename_i hi
      have hlt := hasI_lt hi
      have h' : (W.g.set d.i.toNat (crA (W.g.getD d.i.toNat ag0)))[i]? = some a' := h'
      by_cases e : d.i.toNat = i
      · subst e
        rw [List.getElem?_set_self hlt] at h'
        injection h' with h'
        have hd := getD_some (d := ag0) hlt
        rw [h] at hd
        injection hd with hd
        rw [← hd] at h'
        subst h'
        exact absurd rfl h1
      · rw [List.getElem?_set_ne e] at h'; exact same _ rfl h'
    · exact same _ rfl h'
  · refine same _ ?_ h'; split <;> rfl
theorem len_do (W : Wd) (d : Dod) : (wDo W d).g.length = W.g.length := by
  unfold wDo
  split
  · unfold wBeg; split <;> rfl
  · unfold wStep; split <;> rfl
  · unfold wDel
    split
    · exact g_ord _
    · rfl
  · unfold wTwo
    split
    · exact g_ord _
    · rfl
  · unfold wLose; split <;> rfl
  · unfold wHear; split <;> rfl
  · unfold wCrA
    split
    · show (W.g.set _ _).length = _; exact List.length_set
    · rfl
  · split <;> rfl
/-- A row of n numbers. -/
def rowI (n : Nat) (v : Nat → Int) : Array Value := ((List.range n).map fun i => Value.int .i64 (v i)).toArray
theorem rowI_size (n : Nat) (v : Nat → Int) : (rowI n v).size = n := by simp [rowI]
theorem rowI_at {n : Nat} {v : Nat → Int} {i : Nat} (h : i < n) : (rowI n v)[i]? = some (.int .i64 (v i)) := by simp [rowI, h]
theorem rowI_set {n : Nat} {v : Nat → Int} {i : Nat} (x : Int) : (rowI n v).setIfInBounds i (.int .i64 x) = rowI n (fun j => if j = i then x else v j) := by
  apply Array.ext_getElem?
  intro j
  by_cases hj : j < n
  · rw [Array.getElem?_setIfInBounds, rowI_size]
    by_cases e : i = j
    · subst e; rw [if_pos rfl, if_pos hj, rowI_at hj]; simp
    · rw [if_neg e, rowI_at hj, rowI_at hj, if_neg (fun q => e q.symm)]
  · rw [Array.getElem?_eq_none (by simp [rowI]; omega), Array.getElem?_eq_none (by simp [rowI]; omega)]
theorem rowI_made (n : Nat) : madeCells (Value.int .i64 0).cells (n * 1) = rowI n (fun _ => 0) := by
  have h1 : (madeCells (Value.int .i64 0).cells (n * 1)).size = n := by rw [size_madeCells]; omega
  apply Array.ext_getElem?
  intro j
  by_cases hj : j < n
  · rw [rowI_at hj]
    have : (Value.int IntKind.i64 0).cells = #[.int .i64 0] := rfl
    rw [this]
    simp only [madeCells]
    simp [hj, Nat.mod_one]
  · rw [Array.getElem?_eq_none (by rw [h1]; omega), Array.getElem?_eq_none (by rw [rowI_size]; omega)]
section
variable (w : World)
set_option maxRecDepth 100000 in
set_option maxHeartbeats 8000000 in
theorem barrierTaken_walk (k0 : Nat) (hk0 : k0 < 256) (A : Option Addr) (n c : Nat) (l : List Dod) (h : DoL w A n l) (hnc : n ≤ c) (hc : c * 24 ≤ 140737488351232) :
    Calls Try.prog 7 #[.int .u8 (k0 : Int), .slice A n c] w fun r w' => r = .returned (.bool true) ∧ Below w.heap.size w w' := by
  obtain ⟨q, hq⟩ : ∃ q, min n 400 = q := ⟨_, rfl⟩
  have hqi : min (n : Int) 400 = (q : Int) := by omega
  have hqn : q ≤ n := by omega
  have hq4 : q ≤ 400 := by omega
  have hqni : (q : Int) ≤ (n : Int) := by omega
  have hqci : (q : Int) ≤ (c : Int) := by omega
  have hq0 : (0 : Int) ≤ (q : Int) := by omega
  have HD := Lib.hid h
  have hk1 : 1 ≤ k0 % 5 + 1 := by omega
  have hk5 : k0 % 5 + 1 ≤ 5 := by omega
  have hBgn := wbegin_ w k0 hk0
  obtain ⟨K, hK⟩ : ∃ K, k0 % 5 + 1 = K := ⟨_, rfl⟩
  rw [hK] at hk1 hk5 hBgn
  clear hq h hK
  go_enter Try.func7, Try.ntmps7
  go_wp2_with fail
  refine hBgn.mono ?_
  rintro r w1 ⟨wb, cg, gs, av, rfl, h1, hB1⟩
  obtain ⟨a, ha⟩ : ∃ a, w.heap.size = a := ⟨_, rfl⟩
  have Ha := Lib.hid ha
  rw [ha] at h1 hB1
  have hs1 : a ≤ w1.heap.size := by rw [← ha]; exact hB1.size
  clear ha hBgn
  go_wp2_with fail
  refine (alive_ w1).mono ?_
  rintro r w2 ⟨rfl, hb2⟩
  have h2 := h1.keep hb2
  have hB2 : Below a w w2 := hB1.trans (hb2.mono hs1)
  clear h1 hB1 hb2 hs1
  go_wp2_with fail
  go_loopw [33] (fun iv wr => ∃ (i : Nat) (W : Wd) (ov xv jv : Value), i ≤ q ∧ iv = .int .i64 (i : Int) ∧ WmX wr a (fun _ => False) wb cg gs av ov xv jv W ∧ Hid (Inv W) ∧ Hid (Lim i W) ∧ W.g.length = K ∧ Below a w wr) (fun iv _ => q - (intOf iv).toNat)
  case atStart => exact ⟨0, _, _, _, _, Nat.zero_le _, rfl, h2, Lib.hid (inv0 hk1), Lib.hid (lim0 hk5), by simp [wd0], hB2⟩
  case round =>
    obtain ⟨i, W, ov, xv, jv, hi, rfl, hW, hI, hL, hgK, hB⟩ := hrel
    clear h2 hB2
    by_cases hlt : i < q
    · have hil : (i : Int) < (q : Int) := by omega
      have hi0 : (0 : Int) ≤ (i : Int) := by omega
      obtain ⟨ba, oa, d, rfl, hl, hF, hcs⟩ := HD.out.at_ i (by omega)
      have hBw : Below w.heap.size w wr := by rw [Ha.out]; exact hB
      have d0 : wr.cell? ⟨ba, oa + i * 3, none⟩ = some (.int .u8 (d.kd : Int)) := (hBw.cell (cell_lt (hcs 0 _ rfl))).trans (hcs 0 _ rfl)
      have d1 : wr.cell? ⟨ba, oa + i * 3 + 1, none⟩ = some (.int .i64 d.id) := (hBw.cell (cell_lt (hcs 1 _ rfl))).trans (hcs 1 _ rfl)
      have d2 : wr.cell? ⟨ba, oa + i * 3 + 2, none⟩ = some (.int .i64 d.i) := (hBw.cell (cell_lt (hcs 2 _ rfl))).trans (hcs 2 _ rfl)
      have hba : Below wr.heap.size wr (wr.alloc (.cells (doa d) 66)) := (Below.refl _ _).alloc (Nat.le_refl _) _
      have hbd : Blk (wr.alloc (.cells (doa d) 66)) wr.heap.size 66 (doa d) := Blk.new wr _ _ rfl
      have har : a ≤ wr.heap.size := by have := hB.size; rw [Ha.out] at this; exact this
      have h4 := hW.keep hba
      have hB4 := hB.trans (hba.mono har)
      have hw4s : (wr.alloc (.cells (doa d) 66)).heap.size = wr.heap.size + 1 := by simp
      have hLim2 := Lib.hid (Lim.do hL.out hW.co.idr d hF.id)
      have hInv2 := Lib.hid (inv_do hI.out d)
      clear hba hcs hBw hl
      obtain ⟨f0, f1, _, _, _⟩ := h4.cs
      obtain ⟨AA, cA, hav, hcA, hmA, hnA⟩ := own_form h4.ptrs
      rw [hgK] at hav
      have Hav := Lib.hid hav
      rw [hav] at f1
      have HgK := Lib.hid hgK
      obtain ⟨w4, hw4⟩ : ∃ w4, wr.alloc (.cells (doa d) 66) = w4 := ⟨_, rfl⟩
      have Hw4 := Lib.hid hw4
      obtain ⟨gd, hgd⟩ : ∃ g, wr.heap.size = g := ⟨_, rfl⟩
      have Hgd := Lib.hid hgd
      have f1' : (wr.alloc (.cells (doa d) 66)).cell? ⟨wb, 1, none⟩ = some (.slice AA K cA) := f1
      rw [hw4] at h4 hB4 hbd f1 hw4s
      rw [hgd] at hbd hw4s har
      have H4 := Lib.hid h4
      have hB4' := Lib.hid hB4
      have hbd' := Lib.hid hbd
      obtain ⟨i0, hi0', hz0, hz1, hz2⟩ := int_info
      have Hz := Lib.hid hz2
      clear hz2 hav hW hB hw4 hgd hcA hmA hnA hgK
      obtain ⟨wo, hwo⟩ : ∃ wo : World, wo = wr := ⟨_, rfl⟩
      clear hwo
      go_wp2_with (first
        | (at_make
           refine wpList_make_blk _ rfl _ _ 25 rfl 3 i0 _ 1 8 Try.underlying25 hi0' hz0 hz1 Hz.out .i64 .i64 _ _ K rfl rfl rfl rfl (by omega) (by omega) ?_
           intro wx hkx hbx hsx
           have f1x := (hbx.cell (cell_lt f1')).trans f1')
        | (at_make
           refine wpList_make_blk _ rfl _ _ 25 rfl 3 i0 _ 1 8 Try.underlying25 hi0' hz0 hz1 Hz.out .i64 .i64 _ _ K rfl rfl rfl rfl (by omega) (by omega) ?_
           intro wy hky hby hsy
           have f1y := (hby.cell (cell_lt f1x)).trans f1x)
        | fail)
      rw [Hgd.out]
      have hw4s' : (wr.alloc (.cells (doa d) 66)).heap.size = gd + 1 := by rw [Hw4.out]; exact hw4s
      have hsx' : wx.heap.size = gd + 1 + 1 := by have := hsx; rw [show (wr.alloc (.cells (doa d) 66)).heap.size = gd + 1 from hw4s'] at this; exact this
      have kx : Blk wx (gd + 1) 3 (rowI K fun _ => 0) := by
        have := hkx
        rw [show (wr.alloc (.cells (doa d) 66)).heap.size = gd + 1 from hw4s', rowI_made] at this
        exact this
      have ky : Blk wy (gd + 1 + 1) 3 (rowI K fun _ => 0) := by
        have := hky
        rw [hsx', rowI_made] at this
        exact this
      have hbx' : Below w4.heap.size w4 wx := by rw [← Hw4.out]; exact hbx
      have kx' := kx.keep hby
      have hbW : Below w4.heap.size w4 wy := hbx'.trans (hby.mono hbx'.size)
      clear Hw4 Hgd f1' d0 d1 d2 hkx hky hbx hby hsx hsy f1x f1y kx hbx' hsx' hw4s' f0 f1 h4 hB4 hbd
      go_wp2_with fail
      go_loopw [54] (fun jv w6 => ∃ (j : Nat) (g1 g2 : Nat → Int), j ≤ K ∧ jv = .int .i64 (j : Int) ∧ Blk w6 (gd + 1) 3 (rowI K g1) ∧ Blk w6 (gd + 1 + 1) 3 (rowI K g2) ∧ Hid (∀ i, i < j → g1 i = (W.g.getD i ag0).pr ∧ g2 i = (W.g.getD i ag0).fz) ∧ Below w4.heap.size w4 w6) (fun jv _ => K - (intOf jv).toNat)
      case atStart => exact ⟨0, _, _, Nat.zero_le _, rfl, kx', ky, Lib.hid (fun i hi => by omega), hbW⟩
      case round =>
        obtain ⟨w6, rfl⟩ : ∃ w6 : World, w6 = wr := ⟨_, rfl⟩
        obtain ⟨j, g1, g2, hj, rfl, k1, k2, hg, hb6⟩ := hrel
        have h6 := H4.out.keep hb6
        by_cases hjlt : j < K
        · have hjl : (j : Int) < (K : Int) := by omega
          have hj0 : (0 : Int) ≤ (j : Int) := by omega
          have hjg : j < W.g.length := by rw [HgK.out]; exact hjlt
          obtain ⟨pb, po, rfl, cp⟩ := h6.ptr Hav.out HgK.out.symm hjlt
          have hAg := h6.at_ hjg
          have hP := prepared_ w6 (gs j) _ hAg
          have hZ := frozen_ w6 (gs j) _ hAg
          obtain ⟨y1, hy1⟩ : ∃ y, (W.g.getD j ag0).pr = y := ⟨_, rfl⟩
          obtain ⟨y2, hy2⟩ : ∃ y, (W.g.getD j ag0).fz = y := ⟨_, rfl⟩
          rw [hy1] at hP
          rw [hy2] at hZ
          have Hy := Lib.hid (And.intro hy1 hy2)
          have a1 := k1.cell (j := j) (u := .int .i64 (g1 j)) (rowI_at hjlt)
          have a2 := k2.cell (j := j) (u := .int .i64 (g2 j)) (rowI_at hjlt)
          have b1 := k1.free j
          have b2 := k2.free j
          have s1 := k1.setCell j (.int .i64 y1)
          rw [rowI_set] at s1
          have s1' := s1.grown (grown_setCell _ ⟨gd + 1 + 1, j, none⟩ (.int .i64 y2)) (fun q => by injection q with q; simp only at q; omega)
          have s2 := (k2.grown (grown_setCell _ ⟨gd + 1, j, none⟩ (.int .i64 y1)) (fun q => by injection q with q; simp only at q; omega)).setCell j (.int .i64 y2)
          rw [rowI_set] at s2
          have a2' := (k2.grown (grown_setCell _ ⟨gd + 1, j, none⟩ (.int .i64 y1)) (fun q => by injection q with q; simp only at q; omega)).cell (j := j) (u := .int .i64 (g2 j)) (rowI_at hjlt)
          have b2' := (k2.grown (grown_setCell _ ⟨gd + 1, j, none⟩ (.int .i64 y1)) (fun q => by injection q with q; simp only at q; omega)).free j
          have hbS : Below w4.heap.size w4 ((w6.setCell ⟨gd + 1, j, none⟩ (.int .i64 y1)).setCell ⟨gd + 1 + 1, j, none⟩ (.int .i64 y2)) := by
            have hz := hb6.size
            exact ((hb6.grown (grown_setCell _ _ _) hz (fun k q => by injection q with q; simp only at q; omega)).grown (grown_setCell _ _ _) (by simp [World.setCell]; exact hz) (fun k q => by injection q with q; simp only at q; omega))
          have HS := Lib.hid (And.intro s1' (And.intro s2 hbS))
          clear hy1 hy2 h6 hAg k1 k2 s1 s1' s2 hbS
          go_wp2_with fail
          refine hP.mono ?_
          rintro r v9 ⟨rfl, rfl⟩
          go_wp2_with fail
          refine hZ.mono ?_
          rintro r v9 ⟨rfl, rfl⟩
          go_wp2
          go_roundw
          case rel =>
            refine ⟨j + 1, _, _, by omega, by go_num, HS.out.1, HS.out.2.1, Lib.hid (fun i hi => ?_), HS.out.2.2⟩
            try simp only
            by_cases e : i = j
            · rw [if_pos e, if_pos e, e]; exact ⟨Hy.out.1.symm, Hy.out.2.symm⟩
            · rw [if_neg e, if_neg e]; exact hg.out i (by omega)
          case measure => simp [intOf]; omega
        · have hjK : j = K := by omega
          subst hjK
          have hjl : ¬ (j : Int) < (j : Int) := by omega
          have hB6 : Below a w w6 := hB4'.out.trans (hb6.mono (by rw [hw4s]; omega))
          have hbd6 := hbd'.out.keep hb6
          have e0 := hbd6.cell (j := 0) (u := .int .u8 (d.kd : Int)) rfl
          have e1 := hbd6.cell (j := 1) (u := .int .i64 d.id) rfl
          have e2 := hbd6.cell (j := 2) (u := .int .i64 d.i) rfl
          have h6p := h6.prot' (P' := fun k => k = gd + 1 ∨ k = gd + 1 + 1) (fun k hk => ⟨fun q => by have := (H4.out.knLt q).2; omega, hk.elim (fun e => e ▸ k1.lt) (fun e => e ▸ k2.lt)⟩)
          have hDo := wdo_ w6 a (fun k => k = gd + 1 ∨ k = gd + 1 + 1) wb cg gs av ov xv jv W h6p hL.out (by omega) d hF
          have hs6 : a ≤ w6.heap.size := by have := hb6.size; omega
          have hK1 := k1.lt
          have hK2 := k2.lt
          clear h6 h6p hbd6
          go_wp2_with fail
          refine hDo.mono ?_
          rintro r w7 ⟨ov7, xv7, jv7, rfl, h7, hb7⟩
          have m1 : Blk w7 (gd + 1) 3 (rowI j g1) := (hb7.block _ hK1 (.inr (.inl rfl))).trans k1
          have m2 : Blk w7 (gd + 1 + 1) 3 (rowI j g2) := (hb7.block _ hK2 (.inr (.inr rfl))).trans k2
          have hB7 : Below a w w7 := hB6.trans (hb7.below hs6)
          obtain ⟨V, hV⟩ : ∃ V, wDo W d = V := ⟨_, rfl⟩
          have hVg : V.g.length = j := by rw [← hV, len_do]; exact HgK.out
          have HT : Hid (∀ l, l < j → (V.g.getD l ag0).pr ≠ 0 → (V.g.getD l ag0).pr ≠ (W.g.getD l ag0).pr → (W.g.getD l ag0).fz = (V.g.getD l ag0).pr) := Lib.hid (fun l hl => by
            rw [← hV]
            exact taken_do d (getD_some (by rw [HgK.out]; exact hl)) (getD_some (by rw [len_do, HgK.out]; exact hl)))
          rw [hV] at h7 hInv2 hLim2
          have f1 := h7.cs.2.1
          rw [Hav.out] at f1
          have H7 := Lib.hid h7
          have HM := Lib.hid (And.intro m1 m2)
          clear hDo hb7 hb6 hB6 e0 e1 e2 k1 k2 hs6 hV h7 m1 m2 hK1 hK2
          obtain ⟨wo, hwo⟩ : ∃ wo : World, wo = w7 := ⟨_, rfl⟩
          clear hwo
          go_wp2_with fail
          go_loopw [78] (fun lv w9 => ∃ l : Nat, l ≤ j ∧ lv = .int .i64 (l : Int) ∧ w9 = w7) (fun lv _ => j - (intOf lv).toNat)
          case atStart => exact ⟨0, Nat.zero_le _, rfl, rfl⟩
          case round =>
            obtain ⟨l, hl, rfl, hwl⟩ := hrel
            subst hwl
            by_cases hllt : l < j
            · have hll : (l : Int) < (j : Int) := by omega
              have hl0 : (0 : Int) ≤ (l : Int) := by omega
              obtain ⟨pb, po, rfl, cp⟩ := H7.out.ptr Hav.out hVg.symm hllt
              have hP := prepared_ wr (gs l) _ (H7.out.at_ (by rw [hVg]; exact hllt))
              have hT := HT.out l hllt
              obtain ⟨q1, q2⟩ := hg.out l hllt
              rw [← q1, ← q2] at hT
              obtain ⟨p, hp⟩ : ∃ p, (V.g.getD l ag0).pr = p := ⟨_, rfl⟩
              rw [hp] at hP hT
              have a1 := HM.out.1.cell (j := l) (u := .int .i64 (g1 l)) (rowI_at hllt)
              have a2 := HM.out.2.cell (j := l) (u := .int .i64 (g2 l)) (rowI_at hllt)
              obtain ⟨z1, hz1⟩ : ∃ z, g1 l = z := ⟨_, rfl⟩
              obtain ⟨z2, hz2⟩ : ∃ z, g2 l = z := ⟨_, rfl⟩
              rw [hz1] at a1 hT
              rw [hz2] at a2 hT
              clear q1 q2 hp hz1 hz2
              by_cases p0 : p = 0
              · have t0 : (p != 0) = false := by simpa using p0
                clear hT p0
                go_wp2_with fail
                refine hP.mono ?_
                rintro r v9 ⟨rfl, rfl⟩
                go_wp2
                go_roundw
                case rel => exact ⟨l + 1, by omega, by go_num, by first | trivial | rfl⟩
                case measure => simp [intOf]; omega
              · have t0 : (p != 0) = true := by simpa using p0
                by_cases p1 : p = z1
                · have t1 : (p != z1) = false := by simpa using p1
                  clear hT p0 p1
                  go_wp2_with fail
                  refine hP.mono ?_
                  rintro r v9 ⟨rfl, rfl⟩
                  go_wp2
                  go_roundw
                  case rel => exact ⟨l + 1, by omega, by go_num, by first | trivial | rfl⟩
                  case measure => simp [intOf]; omega
                · have t1 : (p != z1) = true := by simpa using p1
                  have t2 : (z2 != p) = false := by simpa using hT p0 p1
                  clear hT p0 p1
                  go_wp2_with fail
                  refine hP.mono ?_
                  rintro r v9 ⟨rfl, rfl⟩
                  go_wp2
                  go_roundw
                  case rel => exact ⟨l + 1, by omega, by go_num, by first | trivial | rfl⟩
                  case measure => simp [intOf]; omega
            · have hlm : l = j := by omega
              subst hlm
              have hll : ¬ (l : Int) < (l : Int) := by omega
              go_wp2
              go_roundw
              case rel => exact ⟨i + 1, V, ov7, xv7, jv7, by omega, by go_num, H7.out.prot' (fun _ q => q.elim), hInv2, hLim2, hVg, hB7⟩
              case measure => simp [intOf]; omega
    · have he : i = q := by omega
      subst he
      have hil : ¬ (i : Int) < (i : Int) := by omega
      go_wp2
      go_ret
      exact ⟨rfl, by rw [Ha.out]; exact hB⟩
end
end Bar
open Bar

set_option maxRecDepth 100000 in
theorem barrierTaken_lifted (os : Os) (started : os.Started) (H : Type) (enc : TypeId × Value → H) :
    ReturnsInHanded {} Try.checked os 7 .any (Rows.barrierTakenSpec.pre6 enc Try.prog Try.f7 Rows.barrierTakenRow.domain false) (Rows.barrierTakenSpec.post enc Try.prog Try.f7 false true false false) := by
  refine law_lifted (C := Try.checked) (tb := 4) own_ started (by kernel_rfl) Try.func7
    (ChangeSpec.witness6 (enc := enc) (C := Try.checked) false ⟨#[], #[.int .u8 0, .slice none 0 0], []⟩ 8 (by kernel_rfl) (by kernel_rfl) (by kernel_rfl) (by kernel_rfl))
    rfl rfl Try.underlying4 laidOut_ (by kernel_rfl) (fun ds h => by match ds, h with | [_, _], _ => rfl) ?_
  intro W base args ds p hval0 hA0 _ hsz0
  have hval : ∀ (j : Nat) t v, Try.f7.params[j]? = some t → args[j]? = some v → Value.okWide Try.prog W .any base t v := hval0
  have hA : DataW.TrodAll enc Try.prog W 0 (fun _ => true) true Try.f7.params.toList args.toList ds p := hA0
  have hsz : (DataW.weightsEach Try.prog Try.f7.params.toList ds).all (· ≤ reachBytes) = true := hsz0
  clear hval0 hA0 hsz0
  rw [Try.params7] at hA hval hsz
  obtain ⟨v0, v1, d0, d1, p0, p1, rfl, rfl, rfl, h0, h1⟩ := trodAll_two hA
  obtain ⟨k0, rfl, hz0⟩ := arg_nat _ Try.underlying5 (hval 0 _ v0 rfl rfl) h0 wf_u8
  obtain ⟨A1, n1, c1, xs1, rfl, r1, b1⟩ := arg_slice ops_dos Try.underlying61 (hval 1 _ v1 rfl rfl) h1 (weight_at hsz (j := 1) rfl rfl)
  exact by
    obtain ⟨ha, hnc, hc⟩ := dos_of r1
    exact barrierTaken_walk W k0 (by omega) A1 n1 c1 _ ha hnc hc

/-- BarrierTaken, for every input: the statement as it was given. -/
theorem barrierTaken_holds : Rows.BarrierTakenSaid :=
  OpenClaim.holds_of_wide 7 Try.f7 rfl rfl rfl rfl rfl rfl rfl ⟨rfl, rfl, rfl, rfl, rfl⟩ rfl rfl rfl rfl rfl (by kernel_rfl) Try.func7 (by kernel_rfl)
    (of_decide_eq_true (by kernel_rfl)) (by unfold Func.isWrapper; first | (rw [if_pos (by decide +kernel)]; kernel_rfl) | (rw [if_neg (by decide +kernel)]; exact ⟨rfl, rfl⟩))
    (fun os started H enc _ => barrierTaken_lifted os started H enc)
end Go.Proofs.Ytpjbeodnalgkfaa
