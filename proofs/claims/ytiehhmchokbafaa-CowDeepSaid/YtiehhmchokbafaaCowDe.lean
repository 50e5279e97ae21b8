/- Layer 7: P7.4: a tree of n nodes has at most 3/2 times as many bits as n and 1 has, and 1, as its depth. No condition. -/
import Derived.Test.YtiehhmchokbafaaCowAf
namespace Go.Proofs.Ytiehhmchokbafaa
open Go.ChangeShapes Go.WideShapes Go.ChangeAt Go.RowKit

set_option maxRecDepth 100000 in
set_option maxHeartbeats 4000000 in
theorem cowDeep_walk (S : Option Addr) (sn sc : Nat) (l : List ActV) (w : World) (hl : (Shp.slice actShp 48).R w [.slice S sn sc] l) :
    Calls Try.prog 5 #[.slice S sn sc] w fun e w' => e = .returned (.bool true) ∧ Below w.heap.size w w' := by
  obtain ⟨hn1, hn2, hn3⟩ := acts_len hl
  go_enter Try.func5, Try.ntmps5
  go_wp2_with fail
  refine (newF_ w).mono ?_
  rintro e w1 ⟨f, rfl, h1, hb1⟩
  go_wp2_with fail
  refine (alive_ _).mono ?_
  rintro e w2 ⟨rfl, hb2⟩
  have h2 := h1.below hb2
  have hb12 := hb1.trans (hb2.mono hb1.size)
  clear h1 hb1 hb2
  go_wp2_with fail
  refine (short_ S sn sc hn1 hn2 hn3 w2).mono ?_
  rintro e w3 ⟨rfl, rfl⟩
  have hm3 : min sn 300 ≤ 300 := Nat.min_le_right _ _
  have hms : min sn 300 ≤ sn := Nat.min_le_left _ _
  generalize min sn 300 = m at *
  have hstart : ScrF w w2 f [(none, .nil)] 0 := ⟨h2, by simp, hb12⟩
  have hroot0 : ([((none, .nil) : Root)])[0]? = some (none, .nil) := rfl
  clear h2 hb12 hn1 hn2 hn3
  go_wp2_with fail
  go_loopw [18] (fun iv wr => ∃ (k : Nat) (ls : List Root), k ≤ m ∧ iv = .int .i64 (k : Int) ∧ ScrF w wr f ls k ∧ ls[0]? = some (none, .nil)) (fun iv _ => m - (intOf iv).toNat)
  case atStart => exact ⟨0, _, Nat.zero_le _, rfl, hstart, hroot0⟩
  case round =>
    obtain ⟨k, ls, hk, rfl, hS, hr0⟩ := hrel
    clear hstart hroot0
    by_cases hlt : k < m
    · have hil : (k : Int) < (m : Int) := by omega
      obtain ⟨b, o, rfl, kd, r, x, hkd, fr, fx, c0, c1, c2, c3, c4, c5⟩ := acts_later hl hS.below (show k < sn by omega)
      have hact := actA wr kd r x
      have hF := hS.fo.below hact
      have hbw := hS.below.trans (hact.mono hS.below.size)
      have hls := hS.few
      have hdo := does_ _ w.heap.size f ls hF hbw.size (by omega) kd r x hkd fx
      unfold actC at hdo hF hbw hact
      clear hl
      go_wp2_with fail
      refine hdo.mono ?_
      intro e w5 hC
      clear hdo
      rcases hC with ⟨hne, rfl, hb5⟩ | ⟨q, q', hq, hok, rfl, hM⟩
      · have h5 := hF.below hb5
        have hb15 := hbw.trans (hb5.mono hbw.size)
        obtain ⟨er, her⟩ : ∃ er, er = chgE (rootAt ls r) (actOk kd x) := ⟨_, rfl⟩
        rw [← her] at hne ⊢
        have hne2 : (er == 0) = false := by simpa using hne
        clear her hS hact hF hbw hb5 c0 c1 c2 c3 c4 c5
        go_wp2
        go_roundw
        case rel => exact ⟨k + 1, ls, by omega, by go_num, ⟨h5, by omega, hb15⟩, hr0⟩
        case measure => simp [intOf]; omega
      · have h5 := hM.fo
        have hb15 := hbw.trans hM.below
        have hnew := rootAt_new ls q'
        have hr0' : (ls ++ [q'])[0]? = some (none, .nil) := by rw [List.getElem?_append_left (by have := hS.fo.least; omega)]; exact hr0
        obtain ⟨-, hbal, hrt⟩ := h5.trees q' (by simp)
        have hdp := Tr.not_deep hbal
        have hsz := size_small hrt
        have hzero : q'.2.deep = 0 → q'.2.size = 0 := fun h => by rw [Tr.deep_zero h]; rfl
        clear hS hact hF hbw hM c0 c1 c2 c3 c4 c5 hq hok hbal hrt
        have hD := fun W (hW : Fo W w.heap.size f (ls ++ [q'])) => deepF_ W w.heap.size f (ls ++ [q']) hW (ls.length : Int)
        have hZ := fun W (hW : Fo W w.heap.size f (ls ++ [q'])) => sizeF_ W w.heap.size f (ls ++ [q']) hW (ls.length : Int)
        simp only [hnew, treeT] at hD hZ
        generalize q'.2.deep = d at *
        generalize q'.2.size = z at *
        have hle : ¬ ((deepest z : Nat) : Int) < (d : Int) := by omega
        have hd0 : ¬ (d : Int) < 0 := by omega
        clear hdp hnew
        go_wp2_with fail
        refine (hD w5 h5).mono ?_
        rintro e w6 ⟨rfl, hb6⟩
        have h6 := h5.below hb6
        have hb16 := hb15.trans (hb6.mono hb15.size)
        clear h5 hb15 hb6
        go_wp2_with fail
        refine (hZ w6 h6).mono ?_
        rintro e w7 ⟨rfl, hb7⟩
        have h7 := h6.below hb7
        have hb17 := hb16.trans (hb7.mono hb16.size)
        clear h6 hb16 hb7
        go_wp2_with fail
        refine (deepest_ z (by omega) w7).mono ?_
        rintro e w8 ⟨rfl, rfl⟩
        go_wp2_with fail
        refine (hD w7 h7).mono ?_
        rintro e w8 ⟨rfl, hb8⟩
        have h8 := h7.below hb8
        have hb18 := hb17.trans (hb8.mono hb17.size)
        clear h7 hb17 hb8
        go_wp2_with fail
        refine (hZ w8 h8).mono ?_
        rintro e w9 ⟨rfl, hb9⟩
        have h9 := h8.below hb9
        have hb19 := hb18.trans (hb9.mono hb18.size)
        clear h8 hb18 hb9
        by_cases hz0 : (0 : Int) < (z : Int)
        · have hdz : ((d : Int) == 0) = false := by simpa using (by omega : ¬ (d : Int) = 0)
          go_wp2_with fail
          refine (hD w9 h9).mono ?_
          rintro e w10 ⟨rfl, hb10⟩
          have h10 := h9.below hb10
          have hb20 := hb19.trans (hb10.mono hb19.size)
          clear h9 hb19 hb10 hD hZ
          go_wp2
          go_roundw
          case rel => exact ⟨k + 1, ls ++ [q'], by omega, by go_num, ⟨h10, by simp; omega, hb20⟩, hr0'⟩
          case measure => simp [intOf]; omega
        · clear hD hZ
          go_wp2
          go_roundw
          case rel => exact ⟨k + 1, ls ++ [q'], by omega, by go_num, ⟨h9, by simp; omega, hb19⟩, hr0'⟩
          case measure => simp [intOf]; omega
    · have hin : (m : Int) ≤ (k : Int) := by omega
      have hr0i : rootAt ls 0 = some (none, .nil) := (rootAt_nat ls 0).trans hr0
      have hD := fun W (hW : Fo W w.heap.size f ls) => deepF_ W w.heap.size f ls hW 0
      have hZ := fun W (hW : Fo W w.heap.size f ls) => sizeF_ W w.heap.size f ls hW 0
      simp only [hr0i, treeT] at hD hZ
      have h5 := hS.fo
      have hb5 := hS.below
      clear hS hr0i hr0
      go_wp2_with fail
      refine (hD wr h5).mono ?_
      rintro e w6 ⟨rfl, hb6⟩
      have h6 := h5.below hb6
      have hb16 := hb5.trans (hb6.mono hb5.size)
      go_wp2_with fail
      refine (hZ w6 h6).mono ?_
      rintro e w7 ⟨rfl, hb7⟩
      go_wp2
      go_ret
      exact ⟨rfl, hb16.trans (hb7.mono hb16.size)⟩
set_option maxRecDepth 100000 in
theorem cowDeep_lifted (os : Os) (started : os.Started) (H : Type) (enc : TypeId × Value → H) :
    ReturnsInHanded {} Try.checked os 5 .any (Rows.cowDeepSpec.pre6 enc Try.prog Try.f5 Rows.cowDeepRow.domain false) (Rows.cowDeepSpec.post enc Try.prog Try.f5 false true false false) := by
  refine law_lifted (C := Try.checked) (tb := 4) own_ started (by kernel_rfl) Try.func5
    (ChangeSpec.witness6 (enc := enc) (C := Try.checked) false ⟨#[], #[.slice none 0 0], []⟩ 8 (by kernel_rfl) (by kernel_rfl) (by kernel_rfl) (by kernel_rfl))
    rfl rfl Try.underlying4 laidOut_ (by kernel_rfl) (fun ds h => by match ds, h with | [_], _ => rfl) ?_
  intro W base args ds p hval0 hA0 _ hsz0
  have hval : ∀ (j : Nat) t v, Try.f5.params[j]? = some t → args[j]? = some v → Value.okWide Try.prog W .any base t v := hval0
  have hA : DataW.TrodAll enc Try.prog W 0 (fun _ => true) true Try.f5.params.toList args.toList ds p := hA0
  have hsz : (DataW.weightsEach Try.prog Try.f5.params.toList ds).all (· ≤ reachBytes) = true := hsz0
  clear hval0 hA0 hsz0
  rw [Try.params5] at hA hval hsz
  obtain ⟨v0, d0, rfl, rfl, h0⟩ := trodAll_one hA
  obtain ⟨A0, n0, c0, xs0, rfl, r0, b0⟩ := arg_slice ops_acts Try.underlying22 (hval 0 _ v0 rfl rfl) h0 (weight_at hsz (j := 0) rfl rfl)
  exact cowDeep_walk A0 n0 c0 xs0 W r0

/-- CowDeep, for every input: the statement as it was given. -/
theorem cowDeep_holds : Rows.CowDeepSaid :=
  OpenClaim.holds_of_wide 5 Try.f5 rfl rfl rfl rfl rfl rfl rfl ⟨rfl, rfl, rfl, rfl, rfl⟩ rfl rfl rfl rfl rfl (by kernel_rfl) Try.func5 (by kernel_rfl)
    (of_decide_eq_true (by kernel_rfl)) (by unfold Func.isWrapper; first | (rw [if_pos (by decide +kernel)]; kernel_rfl) | (rw [if_neg (by decide +kernel)]; exact ⟨rfl, rfl⟩))
    (fun os started H enc _ => cowDeep_lifted os started H enc)
end Go.Proofs.Ytiehhmchokbafaa
