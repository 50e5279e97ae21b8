/- Layer 8: the document's Squash and Diff. -/
import Derived.Test.YtfgoaedgiomlkaaBloP
set_option linter.all false
namespace Go.Proofs.Ytfgoaedgiomlkaa
open Go.RowKit
namespace Blo

theorem fun_zeros (n : Nat) : fun_ (List.replicate n 0) = fun _ => 0 := by
  funext i
  unfold fun_ List.getD
  cases h : (List.replicate n 0)[i.toNat]? with
  | none => rfl
  | some x => exact (List.eq_of_mem_replicate (List.mem_of_getElem? h))
theorem nvs_repl (n : Nat) : nvs (List.replicate n 0) = List.replicate n (.int .u64 0) := (nvs_zeros n).symm
section
variable (w : World)
set_option maxRecDepth 100000 in
set_option maxHeartbeats 2000000 in
theorem rsquash_ (n : Int) (B : Option Addr) (k d : Nat) (l : List BOp) (hn : I64 n) (hl : Opl w B k l) (hk : k ≤ 9223372036854775807) :
    Calls Try.prog 10 #[.int .i64 n, .slice B k d] w fun e w' => AnsO w w' e (sqE n l) (sqL n l) := by
  obtain ⟨i1, hi1, hy0, hy1, hy2⟩ := u64_info
  obtain ⟨i0, hi0, hz0, hz1, hz2⟩ := bool_info
  have Hy := Lib.hid hy2
  have Hz := Lib.hid hz2
  clear hy2 hz2
  have Hlen := Lib.hid hl.len
  have Hlow := Lib.hid hl.low
  cases hm : manyB n with
  | false =>
    have He := Lib.hid (show sqE n l = 1 by unfold sqE; rw [hm]; rfl)
    have Hv := Lib.hid (show sqL n l = [] by unfold sqL; rw [hm]; rfl)
    go_enter Try.func10, Try.ntmps10
    go_wp2_with fail
    refine (rmany_ _ n hn).mono ?_
    rw [hm]
    rintro e w2 ⟨rfl, rfl⟩
    go_wp2
    go_ret2
    rw [He.out, Hv.out]
    exact ⟨none, 0, 0, [], rfl, Ol.nil _ _, rfl, Below.refl _ _⟩
  | true =>
    obtain ⟨N, rfl⟩ : ∃ N : Nat, n = (N : Int) := Int.eq_ofNat_of_zero_le (by simp [manyB] at hm; omega)
    have hN := many_nat hm
    have hal : apL (List.replicate N 0) l = if l.all (·.right (N : Int)) then vol N (l.foldl doF fun _ => 0) else [] := by
      unfold apL
      rw [List.length_replicate, hm, fun_zeros]
      rfl
    have hae : apE N l = if l.all (·.right (N : Int)) then 0 else 1 := by unfold apE; rw [hm]; rfl
    have HM := Lib.hid hm
    go_enter Try.func10, Try.ntmps10
    go_wp2_with fail
    refine (rmany_ _ N hn).mono ?_
    rw [hm]
    rintro e w2 ⟨rfl, rfl⟩
    clear hm
    go_wp2_with (first
      | (at_make
         refine wpList_make_blk _ rfl _ _ 23 rfl 45 i1 _ 1 8 Try.underlying23 hi1 hy0 hy1 Hy.out .i64 .i64 _ _ N rfl rfl rfl rfl (by omega) (by omega) ?_
         intro w1 hk1 hb1 hs1)
      | fail)
    have hZ : w1.ownsRow w.heap.size 45 1 (.slice (some ⟨w.heap.size, 0, none⟩) N N) N (nvs (List.replicate N 0)) := own_blk hk1 (Nat.le_refl _) (by unfold maxLen; omega) (by rw [Nat.mul_one, nvs_repl]; exact made_list N _) (by rw [nvs_length]; simp)
    refine (rapply_ w1 (some ⟨w.heap.size, 0, none⟩) N N (List.replicate N 0) (no_ns hZ (by intro z hz; rw [List.eq_of_mem_replicate hz]; omega)) (by omega) B k d l (hl.below hb1) hk).mono ?_
    rw [hae, hal]
    clear hZ hk1 hs1
    cases hr : l.all (·.right (N : Int)) with
    | false =>
      have He := Lib.hid (show sqE N l = 1 by unfold sqE; rw [HM.out, hr]; rfl)
      have Hv := Lib.hid (show sqL N l = [] by unfold sqL; rw [HM.out, hr]; rfl)
      clear hr
      rintro e w2 ⟨A2, m2, c2, rfl, hG, hb2⟩
      go_wp2
      go_ret2
      rw [He.out, Hv.out]
      exact ⟨none, 0, 0, [], rfl, Ol.nil _ _, rfl, below_step hb1 hb2 (Nat.le_refl _)⟩
    | true =>
      have He := Lib.hid (show sqE N l = 0 by unfold sqE; rw [HM.out, hr]; rfl)
      have Hv := Lib.hid (show sqL N l = shortS (tof (tch l) (l.foldl doF fun _ => 0)) N by unfold sqL; rw [HM.out, hr, tof_told]; rfl)
      have hALL := Lib.hid hr
      clear hr
      rintro e w2 ⟨A2, m2, c2, rfl, hG, hb2⟩
      have hm2 : m2 = N := by have := hG.own.1; rw [if_pos rfl, nvs_length, vol_length] at this; omega
      subst hm2
      have hV2 : w2.ownsRow w.heap.size 45 1 (.slice A2 m2 c2) m2 (nvs (vol m2 (l.foldl doF fun _ => 0))) := hG.own.mono hb1.size
      have hB2 := below_step hb1 hb2 (Nat.le_refl _)
      clear hG hb1 hb2
      go_wp2_with (first
        | (at_make
           refine wpList_make_blk _ rfl _ _ 49 rfl 4 i0 _ 1 1 Try.underlying49 hi0 hz0 hz1 Hz.out .i64 .i64 _ _ m2 rfl rfl rfl rfl (by omega) (by omega) ?_
           intro w3 hk3 hb3 hs3)
        | fail)
      have hT : w3.ownsRow w.heap.size 4 1 (.slice (some ⟨w2.heap.size, 0, none⟩) m2 m2) m2 (tvs m2 (tch [])) := own_blk hk3 hB2.size (by unfold maxLen; omega) (by rw [Nat.mul_one]; exact (made_list m2 _).trans (tvs_false m2).symm) (tvs_length _ _)
      have hV := own_keep hV2 hb3
      have hB := below_step hB2 hb3 (Nat.le_refl _)
      have hgt := (hT.lt _ rfl).1
      have hne : ∀ q, (Value.slice A2 m2 c2).ownBlock = some q → q ≠ w2.heap.size := fun q hq e => own_ne hV hT (by decide) hq (by rw [e]; rfl)
      clear hk3 hs3 hb3 hB2 hV2
      generalize w2.heap.size = gt at *
      go_loopw [9, 10, 11, 12] (fun iv _ _ _ wr => ∃ i : Nat, i ≤ k ∧ iv = .int .i64 (i : Int) ∧ wr.ownsRow w.heap.size 45 1 (.slice A2 m2 c2) m2 (nvs (vol m2 (l.foldl doF fun _ => 0))) ∧ wr.ownsRow w.heap.size 4 1 (.slice (some ⟨gt, 0, none⟩) m2 m2) m2 (tvs m2 (tch (l.take i))) ∧ Below w.heap.size w wr) (fun iv _ _ _ _ => k - (intOf iv).toNat)
      case atStart => exact ⟨0, Nat.zero_le _, rfl, hV, hT, hB⟩
      case round =>
        obtain ⟨i, hi, rfl, hVr, hTr, hb⟩ := hrel
        clear hV hT hB
        by_cases hlt : i < k
        · have hil : (i : Int) < (k : Int) := by omega
          have hi0 : (0 : Int) ≤ (i : Int) := by omega
          obtain ⟨bo, oo, X, m, cc, x, rfl, hx, c0, c1, c2', c3, hd⟩ := (hl.below hb).at_ hlt
          have hok := all_right hALL.out (List.mem_of_getElem? hx)
          have HT := Lib.hid (take_succ_of hx)
          obtain ⟨kx, hkx⟩ := Int.eq_ofNat_of_zero_le hok.low
          obtain ⟨qx, hqx⟩ := Int.eq_ofNat_of_zero_le (show 0 ≤ x.cnt by have := hok.some; omega)
          have hkq : kx + qx ≤ m2 := by have := hok.high; omega
          have Hkx := Lib.hid hkx
          have Hqx := Lib.hid hqx
          have Hfr := Lib.hid (show x.from_ = (kx : Int) by rw [from_ok hok, hkx])
          clear hkx hqx hx
          go_wp2_with fail
          refine (rrange_at _ x X m cc hd kx qx Hfr.out Hqx.out).mono ?_
          rintro e w6 ⟨rfl, hb6⟩
          have hV6 := own_keep hVr hb6
          have hT6 : w6.ownsRow w.heap.size 4 1 (.slice (some ⟨gt, 0, none⟩) m2 m2) m2 (tvs m2 (tchTo (l.take i) kx 0)) := by rw [tchTo_zero]; exact own_keep hTr hb6
          have hB6 := below_step hb hb6 (Nat.le_refl _)
          have Ht := Lib.hid (show tchTo (l.take i) kx qx = tch (l.take (i + 1)) by rw [HT.out]; exact tchTo_all Hkx.out Hqx.out)
          clear hVr hTr hb hb6 c0 c1 c2' c3 hok hd
          go_wp2_with fail
          go_loopw [12] (fun jv wx => ∃ j : Nat, j ≤ qx ∧ jv = .int .i64 (j : Int) ∧ wx.ownsRow w.heap.size 45 1 (.slice A2 m2 c2) m2 (nvs (vol m2 (l.foldl doF fun _ => 0))) ∧ wx.ownsRow w.heap.size 4 1 (.slice (some ⟨gt, 0, none⟩) m2 m2) m2 (tvs m2 (tchTo (l.take i) kx j)) ∧ Below w.heap.size w wx) (fun jv _ => qx - (intOf jv).toNat)
          case atStart => exact ⟨0, Nat.zero_le _, rfl, hV6, hT6, hB6⟩
          case round =>
            obtain ⟨j, hj, rfl, hVx, hTx, hbx⟩ := hrel
            clear hV6 hT6 hB6
            by_cases hjq : j < qx
            · have hjl : (j : Int) < (qx : Int) := by omega
              have hj0 : (0 : Int) ≤ (j : Int) := by omega
              have hwj : IntKind.i64.wrap ((kx : Int) + (j : Int)) = ((kx + j : Nat) : Int) := by rw [IntKind.wrap_i64]; omega
              have hk0 : (0 : Int) ≤ ((kx + j : Nat) : Int) := by omega
              have hkN : ((kx + j : Nat) : Int) < (m2 : Int) := by omega
              have hkn : kx + j < m2 := by omega
              obtain ⟨-, hse, hfz⟩ := own_at hTx hkn
              obtain ⟨u, hu⟩ := Option.isSome_iff_exists.1 hse
              have HS := Lib.hid (tvs_set (n := m2) (i := kx + j) true (tchTo_succ (l := l.take i) (k := kx) (j := j)))
              have hT7 := own_set1 hTx (kx + j) (.bool true) hkn
              rw [HS.out] at hT7
              have hg7 := grown_setCell wr ⟨gt, kx + j, none⟩ (.bool true)
              have hV7 := own_grown hVx hg7 (fun q hq e => by injection e with e; exact hne q hq e)
              have hB7 : Below w.heap.size w (wr.setCell ⟨gt, kx + j, none⟩ (.bool true)) := hbx.setCell hgt _
              clear hse hVx hTx hbx hg7
              go_wp2
              go_roundw
              case rel => exact ⟨j + 1, by omega, by go_num, hV7, hT7, hB7⟩
              case measure => simp [intOf]; omega
            · have hjn : (qx : Int) ≤ (j : Int) := by omega
              have hje : j = qx := by omega
              rw [hje, Ht.out] at hTx
              clear hje
              go_wp2
              go_roundw
              case rel => exact ⟨i + 1, by omega, by go_num, hVx, hTx, hbx⟩
              case measure => simp [intOf]; omega
        · have hin : (k : Int) ≤ (i : Int) := by omega
          have hta : l.take i = l := List.take_of_length_le (by have := Hlen.out; omega)
          rw [hta] at hTr
          have hll := foldl_low Hlow.out (f := fun _ => 0) low_zero
          clear hta
          go_wp2_with fail
          refine (short_ wr A2 (some ⟨gt, 0, none⟩) m2 c2 m2 _ (tch l) hN (no_ns hVr (vol_low hll)) (rd_own hTr)).mono ?_
          rintro e w8 ⟨v8, n8, L8, rfl, hO8, hL8, hb8⟩
          obtain ⟨A8, c8, rfl, -, -, -⟩ := own_form hO8.row
          have HL8 := Lib.hid hL8
          clear hL8
          go_wp2
          go_ret2
          rw [He.out, Hv.out]
          exact ⟨A8, n8, c8, L8, rfl, hO8.mono hb.size, HL8.out, below_step hb hb8 (Nat.le_refl _)⟩
set_option maxRecDepth 100000 in
set_option maxHeartbeats 2000000 in
theorem rdiff_ (A B : Option Addr) (n m c d : Nat) (a b : List Nat) (ha : Ns w A n a) (hb : Ns w B m b) (hnc : n ≤ c) (hcm : c ≤ 9223372036854775807) (hmd : m ≤ d) (hdm : d ≤ 9223372036854775807) :
    Calls Try.prog 12 #[.slice A n c, .slice B m d] w fun e w' => AnsO w w' e (dfE a b) (dfL a b) := by
  obtain ⟨i0, hi0, hz0, hz1, hz2⟩ := bool_info
  have Hz := Lib.hid hz2
  clear hz2
  have hni : I64 (n : Int) := by unfold I64; omega
  have hmi : I64 (m : Int) := by unfold I64; omega
  have han := ha.len
  have hbm := hb.len
  cases h1 : manyB n with
  | false =>
    have He := Lib.hid (show dfE a b = 6 by unfold dfE; rw [← han, h1]; rfl)
    have Hv := Lib.hid (show dfL a b = [] by unfold dfL; rw [← han, h1]; rfl)
    clear han hbm
    go_enter Try.func12, Try.ntmps12
    go_wp2_with fail
    refine (rmany_ _ n hni).mono ?_
    rw [h1]
    rintro e w2 ⟨rfl, rfl⟩
    go_wp2
    go_ret2
    rw [He.out, Hv.out]
    exact ⟨none, 0, 0, [], rfl, Ol.nil _ _, rfl, Below.refl _ _⟩
  | true =>
    cases h2 : manyB m with
    | false =>
      have He := Lib.hid (show dfE a b = 6 by unfold dfE; rw [← han, h1, ← hbm, h2]; rfl)
      have Hv := Lib.hid (show dfL a b = [] by unfold dfL; rw [← han, h1, ← hbm, h2]; rfl)
      clear han hbm
      go_enter Try.func12, Try.ntmps12
      go_wp2_with fail
      refine (rmany_ _ n hni).mono ?_
      rw [h1]
      rintro e w2 ⟨rfl, rfl⟩
      go_wp2_with fail
      refine (rmany_ _ m hmi).mono ?_
      rw [h2]
      rintro e w2 ⟨rfl, rfl⟩
      go_wp2
      go_ret2
      rw [He.out, Hv.out]
      exact ⟨none, 0, 0, [], rfl, Ol.nil _ _, rfl, Below.refl _ _⟩
    | true =>
      by_cases h3 : n = m
      · have He := Lib.hid (show dfE a b = 0 by unfold dfE; rw [← han, h1, ← hbm, h2, if_pos h3]; rfl)
        have Hv := Lib.hid (show dfL a b = shortS (dfM a b) m by unfold dfL; rw [← han, h1, ← hbm, h2, if_pos h3]; rfl)
        subst h3
        have hN := many_nat h1
        have Hbv := Lib.hid (vol_is hbm)
        have Hbl := Lib.hid (fun_low hb.2)
        clear han hbm h2
        go_enter Try.func12, Try.ntmps12
        go_wp2_with fail
        refine (rmany_ _ n hni).mono ?_
        rw [h1]
        rintro e w2 ⟨rfl, rfl⟩
        go_wp2_with fail
        refine (rmany_ _ n hni).mono ?_
        rw [h1]
        rintro e w2 ⟨rfl, rfl⟩
        go_wp2_with (first
          | (at_make
             refine wpList_make_blk _ rfl _ _ 49 rfl 4 i0 _ 1 1 Try.underlying49 hi0 hz0 hz1 Hz.out .i64 .i64 _ _ n rfl rfl rfl rfl (by omega) (by omega) ?_
             intro w6 hk6 hb6 hs6)
          | fail)
        have hT : w6.ownsRow w.heap.size 4 1 (.slice (some ⟨w.heap.size, 0, none⟩) n n) n (tvs n (unlTo (fun_ a) (fun_ b) 0)) := own_blk hk6 (Nat.le_refl _) (by unfold maxLen; omega) (by rw [Nat.mul_one, unlTo_zero]; exact (made_list n _).trans (tvs_false n).symm) (tvs_length _ _)
        clear hk6 hs6 h1
        go_loopw [7] (fun iv wr => ∃ j : Nat, j ≤ n ∧ iv = .int .i64 (j : Int) ∧ wr.ownsRow w.heap.size 4 1 (.slice (some ⟨w.heap.size, 0, none⟩) n n) n (tvs n (unlTo (fun_ a) (fun_ b) j)) ∧ Below w.heap.size w wr) (fun iv _ => n - (intOf iv).toNat)
        case atStart => exact ⟨0, Nat.zero_le _, rfl, hT, hb6⟩
        case round =>
          obtain ⟨j, hj, rfl, hTr, hbr⟩ := hrel
          clear hT hb6
          by_cases hlt : j < n
          · have hil : (j : Int) < (n : Int) := by omega
            have hi0' : (0 : Int) ≤ (j : Int) := by omega
            obtain ⟨p, o, rfl, ca⟩ := ns_at (ha.below hbr) hlt
            obtain ⟨q, r, rfl, cb⟩ := ns_at (hb.below hbr) hlt
            obtain ⟨-, hse, hfz⟩ := own_at hTr hlt
            obtain ⟨u, hu⟩ := Option.isSome_iff_exists.1 hse
            have hun : unl (fun_ a) (fun_ b) j = decide (fun_ a (j : Int) ≠ fun_ b (j : Int)) := rfl
            generalize fun_ a (j : Int) = x at *
            generalize fun_ b (j : Int) = y at *
            clear hse
            by_cases hxy : x = y
            · subst hxy
              have HS := Lib.hid (tvs_set (n := n) false (unlTo_succ (fun_ a) (fun_ b) j false (by rw [hun]; simp)))
              have hT7 := own_set1 hTr j (.bool false) hlt
              rw [HS.out] at hT7
              have hB7 : Below w.heap.size w (wr.setCell ⟨w.heap.size, j, none⟩ (.bool false)) := hbr.setCell (Nat.le_refl _) _
              clear hun hTr hbr
              go_wp2_with fail
              go_region
              go_wp2
              go_roundw
              case rel => exact ⟨j + 1, by omega, by go_num, hT7, hB7.drew⟩
              case measure => simp [intOf]; omega
            · have hxy2 : ((x : Int) == (y : Int)) = false := by simp; omega
              have HS := Lib.hid (tvs_set (n := n) true (unlTo_succ (fun_ a) (fun_ b) j true (by rw [hun]; simp [hxy])))
              have hT7 := own_set1 hTr j (.bool true) hlt
              rw [HS.out] at hT7
              have hB7 : Below w.heap.size w (wr.setCell ⟨w.heap.size, j, none⟩ (.bool true)) := hbr.setCell (Nat.le_refl _) _
              have hxy3 : ((x : Int) != (y : Int)) = true := by simp; omega
              clear hun hTr hbr hxy
              go_wp2_with fail
              go_region
              go_wp2
              go_roundw
              case rel => exact ⟨j + 1, by omega, by go_num, hT7, hB7.drew⟩
              case measure => simp [intOf]; omega
          · have hin : (n : Int) ≤ (j : Int) := by omega
            have hje : j = n := by omega
            rw [hje] at hTr
            have hTn : wr.ownsRow w.heap.size 4 1 (.slice (some ⟨w.heap.size, 0, none⟩) n n) n (tvs n (unl (fun_ a) (fun_ b))) := by
              rw [tvs_congr (b := unlTo (fun_ a) (fun_ b) n) fun i hi => by simp [unlTo, hi]]
              exact hTr
            have hbb := hb.below hbr
            rw [Hbv.out] at hbb
            clear hje hTr
            go_wp2_with fail
            refine (short_ wr B (some ⟨w.heap.size, 0, none⟩) n d n _ (unl (fun_ a) (fun_ b)) hN hbb (rd_own hTn)).mono ?_
            rintro e w8 ⟨v8, n8, L8, rfl, hO8, hL8, hb8⟩
            obtain ⟨A8, c8, rfl, -, -, -⟩ := own_form hO8.row
            have HL8 := Lib.hid hL8
            clear hL8
            go_wp2
            go_ret2
            rw [He.out, Hv.out]
            exact ⟨A8, n8, c8, L8, rfl, hO8.mono hbr.size, HL8.out, below_step hbr hb8 (Nat.le_refl _)⟩
      · have He := Lib.hid (show dfE a b = 1 by unfold dfE; rw [← han, h1, ← hbm, h2, if_neg h3]; rfl)
        have Hv := Lib.hid (show dfL a b = [] by unfold dfL; rw [← han, h1, ← hbm, h2, if_neg h3]; rfl)
        have h4 : ¬ (n : Int) = (m : Int) := by omega
        clear han hbm h3
        go_enter Try.func12, Try.ntmps12
        go_wp2_with fail
        refine (rmany_ _ n hni).mono ?_
        rw [h1]
        rintro e w2 ⟨rfl, rfl⟩
        go_wp2_with fail
        refine (rmany_ _ m hmi).mono ?_
        rw [h2]
        rintro e w2 ⟨rfl, rfl⟩
        go_wp2
        go_ret2
        rw [He.out, Hv.out]
        exact ⟨none, 0, 0, [], rfl, Ol.nil _ _, rfl, Below.refl _ _⟩
end
end Blo
end Go.Proofs.Ytfgoaedgiomlkaa
