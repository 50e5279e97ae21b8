/- Layer 14: the document's Join. -/
import Derived.Test.YtdcggnfplfgcnaaPlaR
set_option linter.all false
namespace Go.Proofs.Ytdcggnfplfgcnaa
open Go.RowKit
namespace Pla
open Blo (I64 Dat Sml FitB Opl dat_own ns_get cons_eq cons_ne drop_of GotN AnsN)
open Sma (Pc Mp Mr mv runB run_mem run_cons run_nil)

theorem reads_16 {m : Mp} {a n : Int} (hr : m.right = true) : (readsL m a n).length ≤ 16 := by
  have := (right_nd hr).1
  unfold readsL
  rw [hr, if_pos rfl]
  split
  · exact Nat.le_trans (parts_len _ _ _ _) this
  · simp
section
variable (w : World)
set_option maxRecDepth 100000 in
set_option maxHeartbeats 2000000 in
theorem rjoin_ (m : Mp) (A : Option Addr) (k c : Nat) (h : Mr w m A k c) (a n : Int) (ha : I64 a) (hn : I64 n) (B : Option Addr) (dn dc : Nat) (ds : List (List Nat)) (hd : Nss w B dn ds) (hdn : dn ≤ 9223372036854775807) :
    Calls Try.prog 20 #[mv m A k c, .int .i64 a, .int .i64 n, .slice B dn dc] w fun e w' => AnsN w w' e (joinE m a n ds) (joinL m a n ds) := by
  obtain ⟨i1, hi1, hy0, hy1, hy2⟩ := u64_info
  have Hy := Lib.hid hy2
  clear hy2
  have hb1 := (Below.refl w.heap.size w).alloc (Nat.le_refl _) (rmo m A k c)
  have hm1 := h.alloc (rmo m A k c)
  have k1 : Blk (w.alloc (rmo m A k c)) w.heap.size 24 #[.int .i64 m.v, .int .i64 m.n, .slice A k c] := Blk.new w _ _ rfl
  obtain ⟨m0, m1, m2, -, -, -⟩ := Sma.cells3 k1
  clear h
  go_enter Try.func20, Try.ntmps20
  go_wp2_with fail
  refine (rreads_ _ m A k c hm1 a n ha hn).mono ?_
  have hrE : readsE m a n = opsE m (trO a n) := rfl
  rw [hrE]
  clear m0 m1 m2 k1 hrE
  cases hr : m.right with
  | false =>
    have HE := Lib.hid (joinE_arg (a := a) (n := n) (ds := ds) hr)
    rw [opsE_arg hr]
    rintro e w2 ⟨A2, n2, c2, L, rfl, hG, -, hb2⟩
    go_wp2
    go_ret2
    rw [HE.out.1, HE.out.2]
    exact ⟨none, 0, 0, rfl, GotN.no _ _, below_step hb1 hb2 (Nat.le_refl _)⟩
  | true =>
    cases ho : (trO a n).right m.n with
    | false =>
      have HE := Lib.hid (joinE_none (ds := ds) hr ho)
      rw [opsE_none hr ho]
      rintro e w2 ⟨A2, n2, c2, L, rfl, hG, -, hb2⟩
      go_wp2
      go_ret2
      rw [HE.out.1, HE.out.2]
      exact ⟨none, 0, 0, rfl, GotN.no _ _, below_step hb1 hb2 (Nat.le_refl _)⟩
    | true =>
      rw [opsE_ok hr ho]
      rintro e w2 ⟨A2, n2, c2, L, rfl, hG, hLf, hb2⟩
      have hB2 := below_step hb1 hb2 (Nat.le_refl _)
      have hp := hG.ptl
      have hfit := fits_of (ds := ds) hLf
      have Hlow := Lib.hid (nss_low hd)
      have hL16 : n2 ≤ 16 := by have := reads_16 (a := a) (n := n) hr; rw [← hLf, List.length_map, ← hp.len] at this; exact this
      have Hsm := Lib.hid hG.sml
      have HlenL := Lib.hid hp.len
      have HlenD := Lib.hid hd.1
      have HEf := Lib.hid (fun hf : fitsB L ds = false => joinE_form hr ho (of_decide_eq_false (hfit ▸ hf)))
      have HEt := Lib.hid (fun hf : fitsB L ds = true => joinE_ok hr ho (of_decide_eq_true (hfit ▸ hf)))
      have hsz2 := hB2.size
      clear hm1 hG hfit hLf hb1 hb2
      by_cases hnm : n2 = dn
      · subst hnm
        have t0 : ((n2 : Int) != (n2 : Int)) = false := by simp
        go_wp2_with fail
        go_loopw [12, 13] (fun ov iv wr => ∃ (i s : Nat), i ≤ n2 ∧ iv = .int .i64 (i : Int) ∧ s ≤ i * 2000 ∧ wr.ownsRow w2.heap.size 64 1 ov s (nvs (ds.take i).flatten) ∧ Hid (decide (((L.drop i).map fun p => p.1.op.len) = (ds.drop i).map fun d => (d.length : Int)) = fitsB L ds) ∧ Below w2.heap.size w2 wr) (fun _ iv _ => n2 - (intOf iv).toNat)
        case atStart => exact ⟨0, 0, Nat.zero_le _, rfl, Nat.zero_le _, own_nil _ _ _ _, Lib.hid rfl, Below.refl _ _⟩
        case round =>
          obtain ⟨i, s, hi, rfl, hs, hO, HL, hb⟩ := hrel
          by_cases hlt : i < n2
          · have hil : (i : Int) < (n2 : Int) := by omega
            have hi0 : (0 : Int) ≤ (i : Int) := by omega
            obtain ⟨p, o, x, X, xm, xc, rfl, hx, -, -, -, c0, c1, c2, c3, c4, c5⟩ := (hp.below hb).at_ hlt
            obtain ⟨q, r, Y, ym, yc, y, rfl, hy, d0, hyc, hyx, hys⟩ := ((hd.below hB2).below hb).at_ hlt
            have hsm := (Hsm.out _ (List.mem_of_getElem? hx)).op.lenB
            simp only at hsm
            have hL := HL.out
            rw [drop_of hx, drop_of hy, List.map_cons, List.map_cons, ← hys.len] at hL
            simp only at hL
            have HC := Lib.hid hL
            have c4' : wr.cell? ⟨p, o + i * 6 + 2 + 2, none⟩ = some (.int .i64 x.op.len) := c4
            have HF0 := Lib.hid (show (ds.take (i + 1)).flatten = (ds.take i).flatten ++ y by rw [List.take_add_one, hy]; simp)
            have hYn : Y = none → ym = 0 := hys.zero
            have hysr := hys.1
            clear hL HL hys
            by_cases hxy : x.op.len = (ym : Int)
            · have t1 : ((ym : Int) != x.op.len) = false := by simp [hxy]
              have HF := Lib.hid (show decide (((L.drop (i + 1)).map fun p => p.1.op.len) = (ds.drop (i + 1)).map fun d => (d.length : Int)) = fitsB L ds by rw [← HC.out, hxy, cons_eq])
              have hmx : s + ym ≤ maxLen := by unfold maxLen; omega
              have hby : (s + ym) * 8 ≤ 140737488355328 := by omega
              have hbz := hb.size
              have hs' : s + ym ≤ (i + 1) * 2000 := by omega
              clear hxy hx hy
              go_wp2_with fail
              go_quiet (fail)
              go_wp2_with (first
                | (at_builtin
                   go_must (refine wpList_app _ rfl (.tmp 47) (.tmp 51) _ rfl w2.heap.size 64 i1 _ 1 8 Try.underlying25 hi1 hy0 hy1 Hy.out rfl Nat.one_pos _ s _ rfl (own_keep hO (below_drewN (Below.refl _ _) _)) Y ym yc (nvs y) rfl hYn (hysr.below (below_drewN (Below.refl _ _) _)) (nvs_one _) hmx hby hbz ?_)
                   intro v3 w3 hown3 hg3 hat3
                   rw [← nvs_app, ← HF0.out] at hown3
                   have hB3 : Below w2.heap.size w2 w3 := (below_drewN hb _).grown hg3 hbz (fun j hj => (hO.lt j hj).1))
                | fail)
              go_roundw
              case rel => exact ⟨i + 1, s + ym, by omega, by go_num, hs', hown3, HF, hB3⟩
              case measure => simp [intOf]; omega
            · have t1 : ((ym : Int) != x.op.len) = true := by simpa using fun e => hxy e.symm
              have HF := Lib.hid (HEf.out (by rw [← HC.out]; exact cons_ne _ _ hxy))
              clear hxy hx hy
              go_wp2_with fail
              go_quiet (fail)
              go_wp2
              go_ret2
              rw [HF.out.1, HF.out.2]
              exact ⟨none, 0, 0, rfl, GotN.no _ _, below_step hB2 (below_drewN hb _) (Nat.le_refl _)⟩
          · have hin : i = n2 := by omega
            subst hin
            have hnn : ¬ (i : Int) < (i : Int) := by omega
            have HT := Lib.hid (HEt.out (by rw [← HL.out, List.drop_of_length_le (by rw [← HlenL.out]; exact Nat.le_refl _), List.drop_of_length_le (by rw [← HlenD.out]; exact Nat.le_refl _)]; simp))
            rw [List.take_of_length_le (by rw [← HlenD.out]; exact Nat.le_refl _)] at hO
            obtain ⟨A4, c4, rfl, -, -, -⟩ := own_form hO
            clear HL
            go_wp2
            go_ret2
            rw [HT.out.1, HT.out.2]
            exact ⟨A4, s, c4, rfl, ⟨hO.mono hsz2, Hlow.out⟩, below_step hB2 hb (Nat.le_refl _)⟩
      · have h4 : ((n2 : Int) != (dn : Int)) = true := by simp; omega
        have HF := Lib.hid (HEf.out (by
          unfold fitsB
          rw [decide_eq_false_iff_not]
          intro e
          have := congrArg List.length e
          rw [List.length_map, List.length_map] at this
          exact hnm (by rw [HlenL.out, HlenD.out, this])))
        clear hnm
        go_wp2
        go_ret2
        rw [HF.out.1, HF.out.2]
        exact ⟨none, 0, 0, rfl, GotN.no _ _, hB2⟩
end
end Pla
end Go.Proofs.Ytdcggnfplfgcnaa
