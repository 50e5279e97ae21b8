/- Layer 14: which data fit parts; plan's Join and the document's. -/
import Derived.Test.YtdcggnfplfgcnaaPlaQ
set_option linter.all false
namespace Go.Proofs.Ytdcggnfplfgcnaa
open Go.RowKit
namespace Pla
open Blo (I64 Dat Sml FitB Opl dat_own ns_get cons_eq cons_ne drop_of GotN AnsN)
open Sma (Pc Mp Mr mv runB run_mem run_cons run_nil)

theorem reads_sum {a n N : Int} (h0 : 0 ≤ a) (h1 : 1 ≤ n) (h2 : a + n ≤ N) : ∀ {l : List Pc} {e x : Int} {i : Nat}, runB e N l = true → 0 ≤ e → x = min (max e a) (a + n) → ((partsL (rdO a n) n i l).map fun q => q.op.len).sum = a + n - x
  | [], e, x, i, hr, he, hx => by
    have := run_nil.1 hr
    rw [parts_nil, show a + n - x = 0 by omega]
    rfl
  | p :: l, e, x, i, hr, he, hx => by
    obtain ⟨k1, k2, k3, k4⟩ := run_cons.1 hr
    have ha : (rdO a n).off = a := rfl
    by_cases hc : max p.fr a < min p.en (a + n)
    · have ex : max p.fr a = x := by omega
      obtain ⟨t, ht⟩ : ∃ t, min p.en (a + n) = t := ⟨_, rfl⟩
      rw [ex, ht] at hc
      have ih := reads_sum h0 h1 h2 (i := i + 1) k4 (by omega) (x := t) (by omega)
      rw [parts_yes (o := rdO a n) (f := x) (t := t) ex ht hc, List.map_cons, List.sum_cons, ih, rd_cut]
      show t - x + (a + n - t) = a + n - x
      omega
    · rw [parts_no (o := rdO a n) rfl rfl hc]
      exact reads_sum h0 h1 h2 k4 (by omega) (by omega)
theorem lens_cast : ∀ ds : List (List Nat), (lens ds : Int) = (ds.map fun d => (d.length : Int)).sum
  | [] => rfl
  | d :: ds => by
    have := lens_cast ds
    unfold lens at *
    rw [List.map_cons, List.map_cons, List.sum_cons, List.sum_cons, ← this]
    omega
theorem join_lens {m : Mp} {a n : Int} {ds : List (List Nat)} (hr : m.right = true) (ho : (trO a n).right m.n = true) (hf : (ds.map fun d => (d.length : Int)) = (readsL m a n).map fun q => q.op.len) : (lens ds : Int) = n ∧ 1 ≤ n ∧ n ≤ 1024 := by
  obtain ⟨h0, h1, h2⟩ := tr_ok ho
  obtain ⟨-, -, h3⟩ := ok_of_right ho
  obtain ⟨-, -, -, hrun⟩ := Sma.right_is hr
  rw [lens_cast, hf, readsL_ok hr ho, reads_sum h0 h1 h2 hrun (Int.le_refl 0) (x := a) (by omega)]
  omega
theorem joinE_arg {m : Mp} {a n : Int} {ds : List (List Nat)} (h : m.right = false) : joinE m a n ds = 1 ∧ joinL m a n ds = [] := by
  have e : joinE m a n ds = 1 := by unfold joinE; rw [h]; rfl
  exact ⟨e, by unfold joinL; rw [e]; rfl⟩
theorem joinE_none {m : Mp} {a n : Int} {ds : List (List Nat)} (h : m.right = true) (h2 : (trO a n).right m.n = false) : joinE m a n ds = 9 ∧ joinL m a n ds = [] := by
  have e : joinE m a n ds = 9 := by unfold joinE; rw [h, h2]; rfl
  exact ⟨e, by unfold joinL; rw [e]; rfl⟩
theorem joinE_form {m : Mp} {a n : Int} {ds : List (List Nat)} (h : m.right = true) (h2 : (trO a n).right m.n = true) (h3 : ¬ (ds.map fun d => (d.length : Int)) = (readsL m a n).map fun q => q.op.len) : joinE m a n ds = 5 ∧ joinL m a n ds = [] := by
  have e : joinE m a n ds = 5 := by unfold joinE; rw [if_pos h, if_pos h2, if_neg h3]
  exact ⟨e, by unfold joinL; rw [e]; rfl⟩
theorem joinE_ok {m : Mp} {a n : Int} {ds : List (List Nat)} (h : m.right = true) (h2 : (trO a n).right m.n = true) (h3 : (ds.map fun d => (d.length : Int)) = (readsL m a n).map fun q => q.op.len) : joinE m a n ds = 0 ∧ joinL m a n ds = ds.flatten := by
  have e : joinE m a n ds = 0 := by unfold joinE; rw [if_pos h, if_pos h2, if_pos h3]
  exact ⟨e, by unfold joinL; rw [e]; rfl⟩
/-- Do the data fit the parts? -/
def fitsB (L : List (Pt × Value)) (ds : List (List Nat)) : Bool := decide ((L.map fun p => p.1.op.len) = ds.map fun d => (d.length : Int))
theorem fits_of {L : List (Pt × Value)} {l : List Pt} {ds : List (List Nat)} (e : L.map Prod.fst = l) : fitsB L ds = decide ((ds.map fun d => (d.length : Int)) = l.map fun q => q.op.len) := by
  unfold fitsB
  rw [← e, List.map_map]
  exact decide_eq_decide.2 ⟨fun h => h.symm, fun h => h.symm⟩
theorem nss_low {w : World} {A : Option Addr} {n : Nat} {ds : List (List Nat)} (h : Nss w A n ds) : ∀ z ∈ ds.flatten, z < 18446744073709551616 := fun z hz => by
  obtain ⟨d, hd, hz⟩ := List.mem_flatten.1 hz
  obtain ⟨i, hi, rfl⟩ := List.getElem_of_mem hd
  obtain ⟨_, _, _, _, _, _, _, _, _, hns⟩ := h.2 i hi
  exact hns.2 z hz
section
variable (w : World)
set_option maxRecDepth 100000 in
theorem jone_ (q : Pt) (d : Value) (A : Option Addr) (n c : Nat) :
    Calls Try.prog 46 #[pa q d, .slice A n c] w fun e w' => e = .returned (.bool (decide (q.op.len = (n : Int)))) ∧ Below w.heap.size w w' := by
  have hb := (Below.refl w.heap.size w).alloc (Nat.le_refl _) (pto q d 67)
  by_cases h : q.op.len = (n : Int)
  · have H := Lib.hid (decide_eq_true h)
    have t : ((n : Int) == q.op.len) = true := by simp [h]
    clear h
    go_enter Try.func46, Try.ntmps46
    go_wp2
    go_ret
    rw [H.out]
    exact ⟨rfl, hb⟩
  · have H := Lib.hid (decide_eq_false h)
    have t : ((n : Int) == q.op.len) = false := by simpa using fun e => h e.symm
    clear h
    go_enter Try.func46, Try.ntmps46
    go_wp2
    go_ret
    rw [H.out]
    exact ⟨rfl, hb⟩
set_option maxRecDepth 100000 in
set_option maxHeartbeats 2000000 in
theorem jeqf_ (A B : Option Addr) (n m c d : Nat) (L : List (Pt × Value)) (ds : List (List Nat)) (ha : Ptl w A n L) (hb : Nss w B m ds) (hn : n ≤ 9223372036854775807) (hm : m ≤ 9223372036854775807) :
    Calls Try.prog 47 #[.slice A n c, .slice B m d, .func (.func 46) #[] #[]] w fun e w' => e = .returned (.bool (fitsB L ds)) ∧ Below w.heap.size w w' := by
  have Han := Lib.hid ha.len
  have Hbm := Lib.hid hb.1
  obtain ⟨R, hR⟩ : ∃ R, fitsB L ds = R := ⟨_, rfl⟩
  rw [hR]
  unfold fitsB at hR
  by_cases hnm : n = m
  · subst hnm
    have HR := Lib.hid hR
    clear hR
    have t0 : ((n : Int) != (n : Int)) = false := by simp
    go_enter Try.func47, Try.ntmps47
    go_wp2_with fail
    go_loopw [17] (fun iv wr => ∃ i : Nat, i ≤ n ∧ iv = .int .i64 (i : Int) ∧ Hid (decide (((L.drop i).map fun p => p.1.op.len) = (ds.drop i).map fun d => (d.length : Int)) = R) ∧ Below w.heap.size w wr) (fun iv _ => n - (intOf iv).toNat)
    case atStart => exact ⟨0, Nat.zero_le _, rfl, Lib.hid HR.out, Below.refl _ _⟩
    case round =>
      obtain ⟨i, hi, rfl, HL, hbw⟩ := hrel
      by_cases hlt : i < n
      · have hil : (i : Int) < (n : Int) := by omega
        have hi0 : (0 : Int) ≤ (i : Int) := by omega
        obtain ⟨p, o, x, X, xm, xc, rfl, hx, -, -, dx, c0, c1, c2, c3, c4, c5⟩ := (ha.below hbw).at_ hlt
        obtain ⟨q, r, Y, ym, yc, y, rfl, hy, d0, -, -, hys⟩ := (hb.below hbw).at_ hlt
        have hL := HL.out
        rw [drop_of hx, drop_of hy, List.map_cons, List.map_cons, ← hys.len] at hL
        simp only at hL
        have HC := Lib.hid hL
        have hba : Below wr.heap.size wr (wr.alloc (pto x (.slice X xm xc) 67)) := (Below.refl _ _).alloc (Nat.le_refl _) _
        have g0 := (hba.cell (cell_lt d0)).trans d0
        have hB := below_step hbw hba (Nat.le_refl _)
        clear ha hb hx hy HL hL dx hys
        go_wp2_with fail
        refine (jone_ _ x (.slice X xm xc) Y ym yc).mono ?_
        rcases hxy : decide (x.op.len = (ym : Int)) with _ | _
        · rintro e w2 ⟨rfl, hb2⟩
          have HF := Lib.hid (show R = false by rw [← HC.out]; exact cons_ne _ _ (of_decide_eq_false hxy))
          clear hxy
          go_wp2
          go_ret
          rw [HF.out]
          exact ⟨rfl, below_step hB hb2 (Nat.le_refl _)⟩
        · rintro e w2 ⟨rfl, hb2⟩
          have HF := Lib.hid (show decide (((L.drop (i + 1)).map fun p => p.1.op.len) = (ds.drop (i + 1)).map fun d => (d.length : Int)) = R by rw [← HC.out, of_decide_eq_true hxy, cons_eq])
          have hB2 := below_step hB hb2 (Nat.le_refl _)
          clear hxy
          go_wp2
          go_roundw
          case rel => exact ⟨i + 1, by omega, by go_num, HF, hB2⟩
          case measure => simp [intOf]; omega
      · have hin : (n : Int) ≤ (i : Int) := by omega
        have HF := Lib.hid (show R = true by rw [← HL.out, List.drop_of_length_le (by have := Han.out; omega), List.drop_of_length_le (by have := Hbm.out; omega)]; simp)
        go_wp2
        go_ret
        rw [HF.out]
        exact ⟨rfl, hbw⟩
  · have hR2 : R = false := by
      rw [← hR]
      simp only [decide_eq_false_iff_not]
      intro e
      have := congrArg List.length e
      rw [List.length_map, List.length_map] at this
      exact hnm (by rw [Han.out, Hbm.out, this])
    subst hR2
    have h4 : ((n : Int) != (m : Int)) = true := by simp; omega
    clear hR hnm ha hb
    go_enter Try.func47, Try.ntmps47
    go_wp2
    go_ret
    exact ⟨rfl, Below.refl _ _⟩
set_option maxRecDepth 100000 in
set_option maxHeartbeats 2000000 in
theorem join_ (m : Mp) (A : Option Addr) (k c : Nat) (h : Mr w m A k c) (a n : Int) (ha : I64 a) (hn : I64 n) (B : Option Addr) (dn dc : Nat) (ds : List (List Nat)) (hd : Nss w B dn ds) (hdn : dn ≤ 9223372036854775807) :
    Calls Try.prog 19 #[mv m A k c, .int .i64 a, .int .i64 n, .slice B dn dc] w fun e w' => AnsN w w' e (joinE m a n ds) (joinL m a n ds) := by
  have hb1 := (Below.refl w.heap.size w).alloc (Nat.le_refl _) (mo m A k c)
  have hm1 := h.alloc (mo m A k c)
  have k1 : Blk (w.alloc (mo m A k c)) w.heap.size 33 #[.int .i64 m.v, .int .i64 m.n, .slice A k c] := Blk.new w _ _ rfl
  obtain ⟨m0, m1, m2, -, -, -⟩ := Sma.cells3 k1
  clear h
  go_enter Try.func19, Try.ntmps19
  go_wp2_with fail
  refine (reads_ _ m A k c hm1 a n ha hn).mono ?_
  have hrE : readsE m a n = opsE m (trO a n) := rfl
  rw [hrE]
  clear m0 m1 m2 k1 hrE
  cases hr : m.right with
  | false =>
    have HE := Lib.hid (joinE_arg (a := a) (n := n) (ds := ds) hr)
    rw [opsE_arg hr]
    rintro e w2 ⟨A2, n2, c2, L, rfl, hG, -, hb2⟩
    go_wp2
    go_ret2
    rw [HE.out.1, HE.out.2]
    exact ⟨none, 0, 0, rfl, GotN.no _ _, below_step hb1 hb2 (Nat.le_refl _)⟩
  | true =>
    cases ho : (trO a n).right m.n with
    | false =>
      have HE := Lib.hid (joinE_none (ds := ds) hr ho)
      rw [opsE_none hr ho]
      rintro e w2 ⟨A2, n2, c2, L, rfl, hG, -, hb2⟩
      go_wp2
      go_ret2
      rw [HE.out.1, HE.out.2]
      exact ⟨none, 0, 0, rfl, GotN.no _ _, below_step hb1 hb2 (Nat.le_refl _)⟩
    | true =>
      rw [opsE_ok hr ho]
      rintro e w2 ⟨A2, n2, c2, L, rfl, hG, hLf, hb2⟩
      have hB2 := below_step hb1 hb2 (Nat.le_refl _)
      obtain ⟨hb1', hb2', -⟩ := hG.bounds
      have hp := hG.ptl
      have hds := hd.below hB2
      have hfit := fits_of (ds := ds) hLf
      have Hlow := Lib.hid (nss_low hd)
      clear hm1 hd hG
      go_wp2_with fail
      refine (jeqf_ _ A2 B n2 dn c2 dc L ds hp hds (by omega) hdn).mono ?_
      by_cases hf : (ds.map fun d => (d.length : Int)) = (readsL m a n).map fun q => q.op.len
      · rw [hfit, decide_eq_true hf]
        have HE := Lib.hid (joinE_ok hr ho hf)
        obtain ⟨hl1, hl2, hl3⟩ := join_lens hr ho hf
        rintro e w3 ⟨rfl, hb3⟩
        have hB3 := below_step hB2 hb3 (Nat.le_refl _)
        have hds3 := hds.below hb3
        have hL0 : 0 < lens ds := by omega
        have hL1 : lens ds ≤ 1000000 := by omega
        clear hf hfit hLf hl1
        go_wp2_with fail
        refine (concat_ _ B dn dc ds hds3 hdn hL1 hL0).mono ?_
        rintro e w4 ⟨v, rfl, hO, hb4⟩
        obtain ⟨A4, c4, rfl, -, -, -⟩ := own_form hO
        go_wp2
        go_ret2
        rw [HE.out.1, HE.out.2]
        exact ⟨A4, lens ds, c4, rfl, ⟨hO.mono hB3.size, Hlow.out⟩, below_step hB3 hb4 (Nat.le_refl _)⟩
      · rw [hfit, decide_eq_false hf]
        have HE := Lib.hid (joinE_form hr ho hf)
        rintro e w3 ⟨rfl, hb3⟩
        clear hf hfit hLf
        go_wp2
        go_ret2
        rw [HE.out.1, HE.out.2]
        exact ⟨none, 0, 0, rfl, GotN.no _ _, below_step hB2 hb3 (Nat.le_refl _)⟩
end
end Pla
end Go.Proofs.Ytdcggnfplfgcnaa
