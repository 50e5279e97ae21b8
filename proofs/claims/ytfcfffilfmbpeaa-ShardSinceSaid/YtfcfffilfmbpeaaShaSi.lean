/- Proves ShardSince of layer 12 (shard), for every input, with no condition: Since makes one snapshot of the other, and of nothing. -/
import Derived.Test.YtfcfffilfmbpeaaShaR
set_option linter.all false
namespace Go.Proofs.Ytfcfffilfmbpeaa
open Go.ChangeShapes Go.WideShapes Go.ChangeAt Go.RowKit
namespace Sha
open Blo (vol fun_ GotN AnsN Dat FitB words_ dfE dfL dfM apE apL short_right vol_is vol_congr unl tof apE_of apL_ok)

theorem df_get (a b : List Nat) (i : Nat) : (dfM a b i).getD (fun_ a (i : Int)) = fun_ b (i : Int) := by
  unfold dfM tof unl
  by_cases h : fun_ a (i : Int) = fun_ b (i : Int)
  · rw [if_neg (by simp [h])]; exact h
  · rw [if_pos (by simp [h])]; rfl
theorem df_does {a b : List Nat} {n : Nat} (hn : n = a.length) (h2 : a.length = b.length) : vol n ((shortS (dfM a b) n).foldl doF (fun_ a)) = b := by
  have hb : b = vol n (fun_ b) := vol_is (by omega)
  conv => rhs; rw [hb]
  refine vol_congr fun i hi => ?_
  rw [do_told, short_told, if_pos hi]
  exact df_get a b i
theorem since_does {a b : List Nat} {n : Nat} (ha : a.length = n) (hb : b.length = n) (hn : n ≤ 1024) : dfE a b = 0 ∧ apE n (dfL a b) = 0 ∧ apL a (dfL a b) = b := by
  have hm : manyB (n : Int) = true := by simp [manyB]; omega
  have hma : manyB (a.length : Int) = true := by rw [ha]; exact hm
  have hmb : manyB (b.length : Int) = true := by rw [hb]; exact hm
  have e1 : dfE a b = 0 := by unfold dfE; rw [hma, hmb, Bool.and_self, if_pos rfl, if_pos (ha.trans hb.symm)]
  have e2 : dfL a b = shortS (dfM a b) n := by unfold dfL; rw [hma, hmb, Bool.and_self, if_pos rfl, if_pos (ha.trans hb.symm), hb]
  have hr : (dfL a b).all (·.right (n : Int)) = true := by rw [e2]; exact short_right hm
  refine ⟨e1, apE_of hm hr, ?_⟩
  rw [apL_ok hma (by rw [ha]; exact hr), ha, e2]
  exact df_does ha.symm (ha.trans hb.symm)
/-- The numbers' row. -/
def IdAt (wr : World) (g : Nat) (l : List Int) : Prop := ∀ j x, l[j]? = some x → wr.cell? ⟨g, j, none⟩ = some (.int .i64 x)
theorem IdAt.below {wr wx : World} {g : Nat} {l : List Int} (h : IdAt wr g l) (hb : Below wr.heap.size wr wx) : IdAt wx g l := fun j x hx => (hb.cell (cell_lt (h j x hx))).trans (h j x hx)
theorem own_ids {wr : World} {B : Nat} {V : Value} {n : Nat} {l : List Int} (h : wr.ownsRow B 3 1 V n (ivs l)) (hn : 0 < n) : ∃ g c, V = .slice (some ⟨g, 0, none⟩) n c ∧ n ≤ c ∧ c ≤ maxLen ∧ IdAt wr g l := by
  obtain ⟨g, cap, cur, rfl, h1, h2, h3, h4, h5, h6⟩ := own_cells h hn
  refine ⟨g, cap, rfl, h1, h2, fun j x hx => ?_⟩
  have hr := rd_own h
  obtain ⟨b', o', e, hc⟩ := hr.2 j (.int .i64 x) (by simp [ivs, hx])
  simp only [Option.some.injEq, Addr.mk.injEq, and_true] at e
  obtain ⟨rfl, rfl⟩ := e
  simpa using hc
/-- What the numbers name. -/
theorem ids_has {s : SS} {j : Nat} {x : Int} (h : (0 :: idsS s)[j + 1]? = some x) : hasS s x = true := by
  rw [List.getElem?_cons_succ] at h
  have hm := List.mem_of_getElem? h
  unfold idsS at hm
  obtain ⟨q, hq, e⟩ := List.mem_map.1 hm
  exact has_iff.2 ⟨q, hq, e⟩
theorem ids_base {s : SS} {j : Nat} {x : Int} (h : (0 :: idsS s)[j]? = some x) : x = 0 ∨ hasS s x = true := by
  cases j with
  | zero => rw [List.getElem?_cons_zero] at h; injection h with h; exact .inl h.symm
  | succ j => exact .inr (ids_has h)
def SiA (w wr : World) (b N : Nat) : Prop := ∃ U s, Run w wr b U s ∧ s.n = N
set_option maxRecDepth 100000 in
set_option maxHeartbeats 8000000 in
theorem shardSince_walk (w : World) (z : Int) (S1 : Option Addr) (n1 c1 : Nat) (l1 : List ActV) (h1 : (Shp.slice actShp 96).R w [.slice S1 n1 c1] l1) :
    Calls Try.prog 5 #[.int .i64 z, .slice S1 n1 c1] w fun e w' => e = .returned (.bool true) ∧ Below w.heap.size w w' := by
  have hn1 := acts_len h1
  obtain ⟨N, hN, hN63⟩ := and63 z
  obtain ⟨i0, hi0, hz0, hz1, hz2⟩ := int_info
  obtain ⟨i1, hi1, hy0, hy1, hy2⟩ := u64_info
  have Hz := Lib.hid hz2
  have Hy := Lib.hid hy2
  clear hz2 hy2
  go_enter Try.func5, Try.ntmps5
  go_wp2_with fail
  refine (new_ w N (by omega)).mono ?_
  rintro e w1 ⟨b, rfl, hS1, hB1⟩
  go_wp2_with fail
  refine (alive_ _).mono ?_
  rintro e w2 ⟨rfl, hb2⟩
  have hA0 : SiA w w2 b N := ⟨_, newS N, (Run.mk hS1 hB1).below hb2, rfl⟩
  clear hS1 hB1 hb2 hN
  go_wp2_with fail
  go_loopw [40] (fun iv wr => ∃ k : Nat, k ≤ n1 ∧ iv = .int .i64 (k : Int) ∧ SiA w wr b N) (fun iv _ => n1 - (intOf iv).toNat)
  case atStart => exact ⟨0, Nat.zero_le _, rfl, hA0⟩
  case round =>
    obtain ⟨k, hk, rfl, U, s, hR, hsn⟩ := hrel
    by_cases hlt : k < n1
    · have hil : (k : Int) < (n1 : Int) := by omega
      have hk0 : (0 : Int) ≤ (k : Int) := by omega
      obtain ⟨bs, os, X, m, cc, K, kn, kc, a, rfl, hcell, hAat⟩ := acts_later h1 hR.bel hlt
      have q0 := hcell 0 _ rfl
      have q1 := hcell 1 _ rfl
      have q2 := hcell 2 _ rfl
      have q3 := hcell 3 _ rfl
      have q4 := hcell 4 _ rfl
      have q5 := hcell 5 _ rfl
      have q6 := hcell 6 _ rfl
      have q7 := hcell 7 _ rfl
      rw [Nat.add_zero] at q0
      obtain ⟨hbv, hvar⟩ := act_var wr a X m cc K kn kc
      have hdo := hR.does hbv hAat
      have hRv := hR.below hbv
      have hsn2 := (actS_n s a).trans hsn
      clear hcell
      simp only [actC] at hdo hbv hvar hRv
      go_wp2_with fail
      refine hdo.mono ?_
      rintro e w5 ⟨rfl, hNx⟩
      have hnext : SiA w w5 b N := ⟨_, _, hRv.next hNx, hsn2⟩
      clear hdo hNx hRv hR
      go_wp2
      go_roundw
      case rel => exact ⟨k + 1, by omega, by go_num, hnext⟩
      case measure => simp [intOf]; omega
    · have hin : (n1 : Int) ≤ (k : Int) := by omega
      clear hA0
      have hba : Below wr.heap.size wr (wr.alloc (.cells #[.int .i64 0] 3)) := (Below.refl _ _).alloc (Nat.le_refl _) _
      have hsz1 : (wr.alloc (.cells #[.int .i64 0] 3)).heap.size = wr.heap.size + 1 := by simp
      have hRa := hR.below hba
      have hO1 : (wr.alloc (.cells #[.int .i64 0] 3)).ownsRow 0 3 1 (.slice (some ⟨wr.heap.size, 0, none⟩) 1 1) 1 (ivs [0]) := own_new wr 0 #[.int .i64 0] 3 rfl (Nat.zero_le _) (by unfold maxLen; omega)
      have hsp := snaps_ _ w.heap.size b U s hRa.sh
      go_wp2_with fail
      refine hsp.mono ?_
      rintro e w3 ⟨A3, m3, c3, rfl, hO3, hb3⟩
      have hR3 := hRa.below hb3
      have hO13 := own_keep hO1 hb3
      obtain ⟨A', c', e3, g1, g2, g3⟩ := own_form hO3
      injection e3 with e31 _ e32
      subst e31 e32
      have hm3 : m3 ≤ 32 := by
        have := hO3.1
        rw [ivs_length] at this
        unfold idsS at this
        rw [List.length_map] at this
        have := hR3.sh.ok.few2
        omega
      have hB3 : Below wr.heap.size wr w3 := below_step hba hb3 (Nat.le_refl _)
      clear hsp hba hRa hO1 hb3 hR3 hsz1
      go_wp2_with (first
      | (at_builtin
         go_must (refine wpList_app _ rfl (.tmp 48) (.tmp 50) _ rfl 0 3 i0 (.int .i64 0) 1 8 Try.underlying42 hi0 hz0 hz1 Hz.out rfl Nat.one_pos (.slice (some ⟨wr.heap.size, 0, none⟩) 1 1) 1 (ivs [0]) rfl hO13 A3 m3 c3 (ivs (idsS s)) rfl (fun e => (g3 e).1) (rd_own hO3) (ivs_one _) (by unfold maxLen; omega) (by omega) (Nat.zero_le _) ?_)
         intro v4 w4 hown4 hg4 hat4
         go_must (
           obtain ⟨m4, hm4⟩ : ∃ m4, 1 + m3 = m4 := ⟨_, rfl⟩
           rw [hm4] at hown4
           obtain ⟨g, c4, hv4, hnc4, hcm4, hId4⟩ := own_ids (l := 0 :: idsS s) hown4 (by omega)
           subst hv4
           have hB4 : Below wr.heap.size wr w4 := hB3.grown hg4 (by have := hB3.size; omega) (fun k hk => by simp [Value.ownBlock] at hk; omega)
           have hlen4 : (0 :: idsS s).length = m4 := by have := hown4.1; simp only [List.length_append, ivs_length] at this; simp only [List.length_cons, List.length_nil] at this ⊢; omega
           have hmin : min (m4 : Int) 8 = ((min m4 8 : Nat) : Int) := by omega
           have hq1 : min m4 8 ≤ m4 := Nat.min_le_left _ _
           have hq2 : ((min m4 8 : Nat) : Int) ≤ (c4 : Int) := by omega
           have hq3 : min m4 8 ≤ c4 := by omega
           have hp : m4 - 1 = m3 := by omega
           have hm31 : m3 + 1 = m4 := by omega
           have hcm5 : c4 ≤ 9223372036854775807 := hcm4
           clear hcm4
           generalize min m4 8 = q at *))
      | fail)
      have hR4 := hR.below hB4
      have hok := hR.sh.ok
      clear hmin hm4 hR hB3 hB4 hg4 hat4 hown4 hO13 hO3 g1 g2 g3
      have hmc : (m4 : Int) ≤ (c4 : Int) := by omega
      have h1c : 1 ≤ c4 := by omega
      rcases Nat.lt_or_ge 1 c4 with hc1 | hc1
      all_goals (
          first
          | (have hc2 : c4 = 1 := by omega
             have hq2 : (q : Int) ≤ 1 := by omega
             have hq3 : q ≤ 1 := by omega
             clear hc1
             subst hc2)
          | (have hc2 : ¬ c4 = 1 := by omega
             clear hc1)
          go_loopw [58] (fun iv wq => ∃ i : Nat, i ≤ q ∧ iv = .int .i64 (i : Int) ∧ Run w wq b U s ∧ IdAt wq g (0 :: idsS s)) (fun iv _ => q - (intOf iv).toNat)
          case atStart => exact ⟨0, Nat.zero_le _, rfl, hR4, hId4⟩
          case round =>
            obtain ⟨i, hi, rfl, hR, hId⟩ := hrel
            clear hR4 hId4
            by_cases hlt : i < q
            · have hil : (i : Int) < (q : Int) := by omega
              have hi0' : (0 : Int) ≤ (i : Int) := by omega
              obtain ⟨x, hx⟩ : ∃ x, (0 :: idsS s)[i]? = some x := ⟨_, List.getElem?_eq_getElem (by omega)⟩
              have ci := hId i x hx
              have hbase := ids_base hx
              have hN0 : (0 : Int) ≤ (N : Int) := by omega
              have hm1 : (1 : Int) ≤ (m4 : Int) := by omega
              have hlv : (lookS s x).length = N := (hok.look_length x).trans hsn
              by_cases hx0 : x = 0
              · have hlz : lookS s x = List.replicate N 0 := by
                  have hh : hasS s x = false := by
                    cases hh : hasS s x with
                    | false => rfl
                    | true => have := hok.has_pos hh; omega
                  rw [look_no hh, hsn]
                have hxb : (x != 0) = false := by simp [hx0]
                clear hx0
                go_wp2_with (first
                  | (at_make
                     go_must (refine wpList_make_blk _ rfl _ _ 29 rfl 48 i1 _ 1 8 Try.underlying29 hi1 hy0 hy1 Hy.out .i64 .i64 _ _ N rfl rfl rfl rfl (by omega) (by omega) ?_)
                     intro w5 hk5 hb5 hs5)
                  | fail)
                all_goals (
                  have hZ : w5.ownsRow 0 48 1 (.slice (some ⟨wr.heap.size, 0, none⟩) N N) N (nvs (List.replicate N 0)) := Blo.own_blk hk5 (Nat.zero_le _) (by unfold maxLen; omega) (by rw [Nat.mul_one, Blo.nvs_repl]; exact Blo.made_list N _) (by rw [nvs_length]; simp)
                  have hNs5 := no_ns hZ (by intro z hz; rw [List.eq_of_mem_replicate hz]; omega)
                  rw [← hlz] at hNs5
                  have hR5 := hR.below hb5
                  have hId5 := hId.below hb5
                  clear hZ hlz hR hId hk5 hb5 hs5 hbase
                  have hbase := ids_base hx
                  generalize (some ⟨wr.heap.size, 0, none⟩ : Option Addr) = A6 at *
                  go_loopw [76] (fun jv wq => ∃ j : Nat, j ≤ m3 ∧ jv = .int .i64 (j : Int) ∧ Run w wq b U s ∧ IdAt wq g (0 :: idsS s) ∧ Ns wq A6 N (lookS s x)) (fun jv _ => m3 - (intOf jv).toNat)
                  case atStart => exact ⟨0, Nat.zero_le _, rfl, hR5, hId5, hNs5⟩
                  case round =>
                    obtain ⟨j, hj, rfl, hR, hId, hNs⟩ := hrel
                    clear hR5 hId5 hNs5
                    by_cases hlt2 : j < m3
                    · first
                      | (exfalso; omega)
                      | (have hjl : (j : Int) < (m3 : Int) := by omega
                         have hj0 : (0 : Int) ≤ (j : Int) := by omega
                         obtain ⟨y, hy⟩ : ∃ y, (0 :: idsS s)[j + 1]? = some y := ⟨_, List.getElem?_eq_getElem (by omega)⟩
                         have cj := hId (j + 1) y hy
                         rw [Nat.add_comm j 1] at cj
                         have hys := ids_has hy
                         have hsi := since_ _ w.heap.size b U s hR.sh x y hys hbase
                         obtain ⟨d1, d2, d3⟩ := since_does hlv ((hok.look_length y).trans hsn) (by omega)
                         rw [d1] at hsi
                         obtain ⟨l, hl⟩ : ∃ l, dfL (lookS s x) (lookS s y) = l := ⟨_, rfl⟩
                         rw [hl] at hsi d2 d3
                         clear hl d1
                         go_wp2_with fail
                         refine hsi.mono ?_
                         rintro e w7 ⟨A7, m7, c7, rfl, hG7, hb7⟩
                         have hm7 : m7 ≤ 9223372036854775807 := by have := hG7.bounds; omega
                         have hR7 := hR.below hb7
                         have hId7 := hId.below hb7
                         have hNs7 := hNs.below hb7
                         have hlo := hR7.look hsn y hys
                         clear hsi hR hId hNs hb7
                         go_wp2_with fail
                         refine hlo.mono ?_
                         rintro e w8 ⟨A8, m8, c8, rfl, hG8, hb8⟩
                         have hR8 := hR7.below hb8
                         have hId8 := hId7.below hb8
                         have hNs8 := hNs7.below hb8
                         have hG78 := hG7.keep hb8
                         clear hlo hR7 hId7 hNs7 hG7 hb8
                         go_wp2_with fail
                         refine (Blo.rapply_ _ _ _ _ _ hNs8 (by omega) _ _ _ _ hG78.os hm7).mono ?_
                         rw [d2, d3]
                         rintro e w9 ⟨A9, m9, c9, rfl, hG9, hb9⟩
                         have hm9 : m9 ≤ 9223372036854775807 := by have := hG9.bounds; omega
                         have hR9 := hR8.below hb9
                         have hId9 := hId8.below hb9
                         have hNs9 := hNs8.below hb9
                         have hw := words_ w9 A9 A8 m9 m8 c9 c8 _ _ hG9.ns (hG8.keep hb9).ns hm9
                         rw [decide_eq_true (rfl : lookS s y = lookS s y)] at hw
                         clear hR8 hId8 hNs8 hG78 hb9 hG8 hG9 d2 d3
                         go_wp2_with fail
                         refine hw.mono ?_
                         rintro e w10 ⟨rfl, j10, rfl⟩
                         have hbd := below_drewN (Below.refl w9.heap.size w9) j10
                         have hR10 := hR9.below hbd
                         have hId10 := hId9.below hbd
                         have hNs10 := hNs9.below hbd
                         clear hR9 hId9 hNs9 hw hbd
                         go_wp2
                         go_roundw
                         case rel => exact ⟨j + 1, by omega, by go_num, hR10, hId10, hNs10⟩
                         case measure => simp [intOf]; omega)
                    · have hjn : (m3 : Int) ≤ (j : Int) := by omega
                      go_wp2
                      go_roundw
                      case rel => exact ⟨i + 1, by omega, by go_num, hR, hId⟩
                      case measure => simp [intOf]; omega)
              · have hxb : (x != 0) = true := by simp [hx0]
                have hxs : hasS s x = true := by
                  rcases hbase with e | e
                  · exact absurd e hx0
                  · exact e
                clear hx0
                go_wp2_with (first
                  | (at_make
                     go_must (refine wpList_make_blk _ rfl _ _ 29 rfl 48 i1 _ 1 8 Try.underlying29 hi1 hy0 hy1 Hy.out .i64 .i64 _ _ N rfl rfl rfl rfl (by omega) (by omega) ?_)
                     intro w55 hk5 hb5 hs5)
                  | fail)
                have hR55 := hR.below hb5
                have hId55 := hId.below hb5
                clear hR hId hk5 hb5 hs5
                refine (hR55.look hsn x hxs).mono ?_
                rintro e w5 ⟨A6, m6, c6, rfl, hG6, hb6⟩
                have hR5 := hR55.below hb6
                have hId5 := hId55.below hb6
                have hNs5 := hG6.ns
                have hm6 : N = m6 := by have := hNs5.len; omega
                subst hm6
                clear hR55 hId55 hb6 hG6
                go_wp2_with fail
                all_goals (
                  go_loopw [76] (fun jv wq => ∃ j : Nat, j ≤ m3 ∧ jv = .int .i64 (j : Int) ∧ Run w wq b U s ∧ IdAt wq g (0 :: idsS s) ∧ Ns wq A6 N (lookS s x)) (fun jv _ => m3 - (intOf jv).toNat)
                  case atStart => exact ⟨0, Nat.zero_le _, rfl, hR5, hId5, hNs5⟩
                  case round =>
                    obtain ⟨j, hj, rfl, hR, hId, hNs⟩ := hrel
                    clear hR5 hId5 hNs5
                    by_cases hlt2 : j < m3
                    · first
                      | (exfalso; omega)
                      | (have hjl : (j : Int) < (m3 : Int) := by omega
                         have hj0 : (0 : Int) ≤ (j : Int) := by omega
                         obtain ⟨y, hy⟩ : ∃ y, (0 :: idsS s)[j + 1]? = some y := ⟨_, List.getElem?_eq_getElem (by omega)⟩
                         have cj := hId (j + 1) y hy
                         rw [Nat.add_comm j 1] at cj
                         have hys := ids_has hy
                         have hsi := since_ _ w.heap.size b U s hR.sh x y hys hbase
                         obtain ⟨d1, d2, d3⟩ := since_does hlv ((hok.look_length y).trans hsn) (by omega)
                         rw [d1] at hsi
                         obtain ⟨l, hl⟩ : ∃ l, dfL (lookS s x) (lookS s y) = l := ⟨_, rfl⟩
                         rw [hl] at hsi d2 d3
                         clear hl d1
                         go_wp2_with fail
                         refine hsi.mono ?_
                         rintro e w7 ⟨A7, m7, c7, rfl, hG7, hb7⟩
                         have hm7 : m7 ≤ 9223372036854775807 := by have := hG7.bounds; omega
                         have hR7 := hR.below hb7
                         have hId7 := hId.below hb7
                         have hNs7 := hNs.below hb7
                         have hlo := hR7.look hsn y hys
                         clear hsi hR hId hNs hb7
                         go_wp2_with fail
                         refine hlo.mono ?_
                         rintro e w8 ⟨A8, m8, c8, rfl, hG8, hb8⟩
                         have hR8 := hR7.below hb8
                         have hId8 := hId7.below hb8
                         have hNs8 := hNs7.below hb8
                         have hG78 := hG7.keep hb8
                         clear hlo hR7 hId7 hNs7 hG7 hb8
                         go_wp2_with fail
                         refine (Blo.rapply_ _ _ _ _ _ hNs8 (by omega) _ _ _ _ hG78.os hm7).mono ?_
                         rw [d2, d3]
                         rintro e w9 ⟨A9, m9, c9, rfl, hG9, hb9⟩
                         have hm9 : m9 ≤ 9223372036854775807 := by have := hG9.bounds; omega
                         have hR9 := hR8.below hb9
                         have hId9 := hId8.below hb9
                         have hNs9 := hNs8.below hb9
                         have hw := words_ w9 A9 A8 m9 m8 c9 c8 _ _ hG9.ns (hG8.keep hb9).ns hm9
                         rw [decide_eq_true (rfl : lookS s y = lookS s y)] at hw
                         clear hR8 hId8 hNs8 hG78 hb9 hG8 hG9 d2 d3
                         go_wp2_with fail
                         refine hw.mono ?_
                         rintro e w10 ⟨rfl, j10, rfl⟩
                         have hbd := below_drewN (Below.refl w9.heap.size w9) j10
                         have hR10 := hR9.below hbd
                         have hId10 := hId9.below hbd
                         have hNs10 := hNs9.below hbd
                         clear hR9 hId9 hNs9 hw hbd
                         go_wp2
                         go_roundw
                         case rel => exact ⟨j + 1, by omega, by go_num, hR10, hId10, hNs10⟩
                         case measure => simp [intOf]; omega)
                    · have hjn : (m3 : Int) ≤ (j : Int) := by omega
                      go_wp2
                      go_roundw
                      case rel => exact ⟨i + 1, by omega, by go_num, hR, hId⟩
                      case measure => simp [intOf]; omega)
            · have hin2 : (q : Int) ≤ (i : Int) := by omega
              have hfin := hR.bel
              go_wp2
              go_ret
              exact ⟨rfl, hfin⟩)
end Sha
open Sha

set_option maxRecDepth 100000 in
theorem shardSince_lifted (os : Os) (started : os.Started) (H : Type) (enc : TypeId × Value → H) :
    ReturnsInHanded {} Try.checked os 5 .any (Rows.shardSinceSpec.pre6 enc Try.prog Try.f5 Rows.shardSinceRow.domain false) (Rows.shardSinceSpec.post enc Try.prog Try.f5 false true false false) := by
  refine law_lifted (C := Try.checked) (tb := 4) own_ started (by kernel_rfl) Try.func5
    (ChangeSpec.witness6 (enc := enc) (C := Try.checked) false ⟨#[], #[.int .i64 0, .slice none 0 0], []⟩ 8 (by kernel_rfl) (by kernel_rfl) (by kernel_rfl) (by kernel_rfl))
    rfl rfl Try.underlying4 laidOut_ (by kernel_rfl) (fun ds h => by match ds, h with | [_, _], _ => rfl) ?_
  intro W base args ds p hval0 hA0 _ hsz0
  have hval : ∀ (j : Nat) t v, Try.f5.params[j]? = some t → args[j]? = some v → Value.okWide Try.prog W .any base t v := hval0
  have hA : DataW.TrodAll enc Try.prog W 0 (fun _ => true) true Try.f5.params.toList args.toList ds p := hA0
  have hsz : (DataW.weightsEach Try.prog Try.f5.params.toList ds).all (· ≤ reachBytes) = true := hsz0
  clear hval0 hA0 hsz0
  rw [Try.params5] at hA hval hsz
  obtain ⟨v0, v1, d0, d1, p0, p1, rfl, rfl, rfl, h0, h1⟩ := trodAll_two hA
  obtain ⟨z0, rfl, hz0⟩ := arg_int _ _ Try.underlying3 (hval 0 _ v0 rfl rfl) h0 wf_i64
  obtain ⟨A1, n1, c1, xs1, rfl, r1, b1⟩ := arg_slice ops_acts Try.underlying22 (hval 1 _ v1 rfl rfl) h1 (weight_at hsz (j := 1) rfl rfl)
  exact shardSince_walk W z0 A1 n1 c1 xs1 r1

/-- ShardSince, for every input: the statement as it was given. -/
theorem shardSince_holds : Rows.ShardSinceSaid :=
  OpenClaim.holds_of_wide 5 Try.f5 rfl rfl rfl rfl rfl rfl rfl ⟨rfl, rfl, rfl, rfl, rfl⟩ rfl rfl rfl rfl rfl (by kernel_rfl) Try.func5 (by kernel_rfl)
    (of_decide_eq_true (by kernel_rfl)) (by unfold Func.isWrapper; first | (rw [if_pos (by decide +kernel)]; kernel_rfl) | (rw [if_neg (by decide +kernel)]; exact ⟨rfl, rfl⟩))
    (fun os started H enc _ => shardSince_lifted os started H enc)
end Go.Proofs.Ytfcfffilfmbpeaa
