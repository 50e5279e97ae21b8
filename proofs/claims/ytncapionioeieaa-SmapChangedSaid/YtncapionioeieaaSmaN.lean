/- Layer 13: New: share, New. -/
import Derived.Test.YtncapionioeieaaSmaO
set_option linter.all false
namespace Go.Proofs.Ytncapionioeieaa
open Go.RowKit
namespace Sma

theorem shareL_fit {size rest : Nat} : ∀ {l : List Int} {i a : Nat}, (∀ x ∈ l, I64 x) → (∀ x ∈ shareL size rest i a l, x.en ≤ 1024) → ∀ x ∈ shareL size rest i a l, Fit x
  | [], _, _, _, _, x, hx => by cases hx
  | y :: l, i, a, h, hb, x, hx => by
    rw [shareL] at hx hb
    rcases List.mem_cons.1 hx with rfl | hx
    · have := hb _ (List.mem_cons_self ..)
      have h1 : 0 ≤ if i < rest then 1 else 0 := Nat.zero_le _
      simp only at this
      refine ⟨?_, ?_, h y (by simp)⟩ <;> unfold I64 <;> simp only <;> omega
    · exact shareL_fit (fun z hz => h z (by simp [hz])) (fun z hz => hb z (by simp [hz])) x hx
theorem shareL_get {size rest : Nat} {l : List Int} {k : Nat} (hk : k < l.length) : (shareL size rest 0 0 l)[k]? = some ⟨(cutA size rest k : Int), (cutA size rest (k + 1) : Int), l[k]⟩ := by
  have h := shareL_take size rest l hk
  have hl := shareL_len size rest l 0 0
  have h1 : ((shareL size rest 0 0 l).take (k + 1))[k]? = (shareL size rest 0 0 l)[k]? := by rw [List.getElem?_take, if_pos (by omega)]
  rw [← h1, h, List.getElem?_append_right (by rw [List.length_take]; omega), List.length_take, show k - min k (shareL size rest 0 0 l).length = 0 by omega]
  rfl
theorem share_fit {n : Nat} {l : List Int} (hn : n ≤ 1024) (h0 : 0 < l.length) (h : ∀ x ∈ l, I64 x) : ∀ x ∈ shareL (n / l.length) (n % l.length) 0 0 l, Fit x :=
  shareL_fit h fun x hx => by
    obtain ⟨i, hi, rfl⟩ := List.getElem_of_mem hx
    rw [shareL_len] at hi
    have := shareL_get (size := n / l.length) (rest := n % l.length) hi
    rw [List.getElem?_eq_getElem (by rw [shareL_len]; exact hi)] at this
    injection this with this
    rw [this]
    have := cut_le (n := n) h0 (show i + 1 ≤ l.length by omega)
    simp only
    omega
section
variable (w : World)
set_option maxRecDepth 100000 in
set_option maxHeartbeats 2000000 in
theorem share_ (n : Nat) (A : Option Addr) (k c : Nat) (l : List Int) (h : Is w A k l) (hk0 : 0 < k) (hk : k ≤ 16) (hn : n ≤ 1024) : Calls Try.prog 33 #[.int .i64 (n : Int), .slice A k c] w fun e w' => ∃ v, e = .returned v ∧ Po w' w.heap.size v k (shareL (n / k) (n % k) 0 0 l) ∧ Below w.heap.size w w' := by
  obtain ⟨i0, hi0', hz0, hz1, hz2⟩ := pc_info
  have Hz := Lib.hid hz2
  have Hl := Lib.hid h.len
  clear hz2
  have hk0' : ¬ ((k : Int) = 0) := by omega
  have hk0b : (0 : Int) < (k : Int) := by omega
  go_enter Try.func33, Try.ntmps33
  go_wp2_with fail
  go_quiet (fail)
  go_wp2_with fail
  obtain ⟨S, hS, HS⟩ : ∃ S : Nat, wrap64 ((n : Int) / (k : Int)) = (S : Int) ∧ Hid (S = n / k) := ⟨n / k, by
    have h1 : n / k ≤ n := Nat.div_le_self n k
    rw [← Int.natCast_ediv]
    generalize n / k = q at *
    unfold wrap64
    omega, Lib.hid rfl⟩
  obtain ⟨R, hR, HR⟩ : ∃ R : Nat, (n : Int) % (k : Int) = (R : Int) ∧ Hid (R = n % k) := ⟨n % k, (Int.natCast_emod n k).symm, Lib.hid rfl⟩
  rw [hS, hR]
  clear hS hR
  have HT := Lib.hid (show shareL (n / k) (n % k) 0 0 l = shareL S R 0 0 l by rw [HS.out, HR.out])
  have hcl : ∀ i, i ≤ k → cutA S R i ≤ 1024 := fun i hi => by
    have := cut_le (n := n) hk0 hi
    rw [HS.out, HR.out]
    omega
  have hsl := Lib.hid (shareL_len S R l 0 0)
  have hb0 : Below w.heap.size w (w.drewN nq) := below_drewN (Below.refl _ _) nq
  generalize w.drewN nq = w1 at *
  go_loopw [7, 8, 22] (fun vv fv iv wr => ∃ i : Nat, i ≤ k ∧ iv = .int .i64 (i : Int) ∧ fv = .int .i64 (cutA S R i : Int) ∧ Po wr w.heap.size vv i ((shareL S R 0 0 l).take i) ∧ Below w.heap.size w wr ) (fun _ _ iv _ => k - (intOf iv).toNat)
  case atStart => exact ⟨0, Nat.zero_le _, rfl, by simp [cutA], po_nil _ _, hb0⟩
  case round =>
    obtain ⟨i, hi, rfl, rfl, hown, hb⟩ := hrel
    by_cases hlt : i < k
    · have hil : (i : Int) < (k : Int) := by omega
      have hi0 : (0 : Int) ≤ (i : Int) := by omega
      have hii : i < l.length := by have := Hl.out; omega
      obtain ⟨b, o, x, rfl, hx, hxi, cx⟩ := (h.below hb).get hlt
      have hxl : l[i] = x := by rw [List.getElem?_eq_getElem hii] at hx; injection hx
      have HTK := Lib.hid (shareL_take S R l hii)
      rw [hxl] at HTK
      have hc1 := hcl (i + 1) (by omega)
      have hcs := cut_succ S R i
      obtain ⟨C0, hC0⟩ : ∃ C0, C0 = cutA S R i := ⟨_, rfl⟩
      obtain ⟨C1, hC1⟩ : ∃ C1, C1 = cutA S R (i + 1) := ⟨_, rfl⟩
      rw [← hC0, ← hC1] at hcs HTK
      rw [← hC1] at hc1
      rw [← hC0]
      have HC0 := Lib.hid hC0
      have HC1 := Lib.hid hC1
      clear hC0 hC1 hx hxl h
      have hsz := hb.size
      by_cases hr : i < R
      · rw [if_pos hr] at hcs
        have hrI : (i : Int) < (R : Int) := by omega
        have hw1 : IntKind.i64.wrap ((C0 : Int) + (S : Int)) = (C0 : Int) + (S : Int) := by rw [IntKind.wrap_i64]; omega
        have hw2 : IntKind.i64.wrap ((C0 : Int) + (S : Int) + 1) = (C1 : Int) := by rw [IntKind.wrap_i64]; omega
        have fq : Fit (⟨(C0 : Int), (C1 : Int), x⟩ : Pc) := ⟨by unfold I64; simp only; omega, by unfold I64; simp only; omega, hxi⟩
        have hrd := (ps_one (w := wr) fq (g := wr.heap.size) rfl).rd
        have z3 : i + 1 ≤ maxLen := by unfold maxLen; omega
        have z4 : (i + 1) * 24 ≤ 140737488355328 := by omega
        have HCS := Lib.hid hcs
        clear hcs
        go_wp2_with (first
          | (at_builtin
             go_must (refine wpList_app _ rfl (.tmp 35) (.tmp 40) _ rfl w.heap.size 58 i0 _ 3 24 Try.underlying23 hi0' hz0 hz1 Hz.out rfl (by omega) _ i _ rfl (own_keep hown ((Below.refl _ _).alloc (Nat.le_refl _) _)) (some ⟨wr.heap.size, 0, none⟩) 1 1 (pvs [⟨(C0 : Int), (C1 : Int), x⟩]) rfl (fun h => by cases h) hrd (pvs_one _) z3 z4 (by simp; omega) ?_)
             intro v3 w3 hown3 hg3 hat3
             rw [← pvs_app, ← HTK.out] at hown3
             have hbw : Below w.heap.size w w3 := (hb.alloc hsz _).grown hg3 (by simp; omega) (fun k hk => (hown.lt k hk).1)
             clear hg3 hat3 hown)
          | fail)
        go_roundw
        case rel => exact ⟨i + 1, by omega, by go_num, by rw [HC1.out], hown3, hbw⟩
        case measure => simp [intOf]; omega
      · rw [if_neg hr] at hcs
        have hrI : ¬ (i : Int) < (R : Int) := by omega
        have hw1 : IntKind.i64.wrap ((C0 : Int) + (S : Int)) = (C1 : Int) := by rw [IntKind.wrap_i64]; omega
        have fq : Fit (⟨(C0 : Int), (C1 : Int), x⟩ : Pc) := ⟨by unfold I64; simp only; omega, by unfold I64; simp only; omega, hxi⟩
        have hrd := (ps_one (w := wr) fq (g := wr.heap.size) rfl).rd
        have z3 : i + 1 ≤ maxLen := by unfold maxLen; omega
        have z4 : (i + 1) * 24 ≤ 140737488355328 := by omega
        have HCS := Lib.hid hcs
        clear hcs
        go_wp2_with (first
          | (at_builtin
             go_must (refine wpList_app _ rfl (.tmp 35) (.tmp 40) _ rfl w.heap.size 58 i0 _ 3 24 Try.underlying23 hi0' hz0 hz1 Hz.out rfl (by omega) _ i _ rfl (own_keep hown ((Below.refl _ _).alloc (Nat.le_refl _) _)) (some ⟨wr.heap.size, 0, none⟩) 1 1 (pvs [⟨(C0 : Int), (C1 : Int), x⟩]) rfl (fun h => by cases h) hrd (pvs_one _) z3 z4 (by simp; omega) ?_)
             intro v3 w3 hown3 hg3 hat3
             rw [← pvs_app, ← HTK.out] at hown3
             have hbw : Below w.heap.size w w3 := (hb.alloc hsz _).grown hg3 (by simp; omega) (fun k hk => (hown.lt k hk).1)
             clear hg3 hat3 hown)
          | fail)
        go_roundw
        case rel => exact ⟨i + 1, by omega, by go_num, by rw [HC1.out], hown3, hbw⟩
        case measure => simp [intOf]; omega
    · have hin : (k : Int) ≤ (i : Int) := by omega
      have hik : i = k := by omega
      subst hik
      rw [List.take_of_length_le (by rw [hsl.out, ← Hl.out]; omega), ← HT.out] at hown
      go_wp2
      go_ret
      exact ⟨_, rfl, hown, hb⟩
theorem new_bad {n : Int} {l : List Int} (h : n < 1 ∨ 1024 < n ∨ l = [] ∨ l.all ndB = false) : newA n l = (zM, 1) := by unfold newA; rw [if_pos h]
theorem vol_no {n : Int} (h : volB n = false) : n < 1 ∨ 1024 < n := by simp [volB] at h; omega
theorem new_many {n : Int} {l : List Int} (h0 : 1 ≤ n) (h1 : n ≤ 1024) (h2 : l ≠ []) (h3 : l.all ndB = true) (h : 16 < l.length ∨ n < (l.length : Int)) : newA n l = (zM, 6) := by
  unfold newA
  rw [if_neg (by simp only [not_or]; exact ⟨by omega, by omega, h2, by simp [h3]⟩), if_pos h]
theorem new_is {n : Int} {l : List Int} (h0 : 1 ≤ n) (h1 : n ≤ 1024) (h2 : l ≠ []) (h3 : l.all ndB = true) (h : ¬ (16 < l.length ∨ n < (l.length : Int))) : newA n l = (⟨1, n, shareL (n.toNat / l.length) (n.toNat % l.length) 0 0 l⟩, 0) := by
  unfold newA
  rw [if_neg (by simp only [not_or]; exact ⟨by omega, by omega, h2, by simp [h3]⟩), if_neg h]
set_option maxRecDepth 100000 in
set_option maxHeartbeats 2000000 in
theorem new_ (n : Int) (A : Option Addr) (k c : Nat) (l : List Int) (h : Is w A k l) (hk : k ≤ 9223372036854775807) (hn : I64 n) : Calls Try.prog 10 #[.int .i64 n, .slice A k c] w fun e w' => Ans w w' e (newA n l) := by
  have hn0 := hn
  unfold I64 at hn
  have hbx : Below w.heap.size w (w.alloc zo) := (Below.refl w.heap.size w).alloc (Nat.le_refl _) _
  have hq := Blk.new w 26 #[.int .i64 0, .int .i64 0, .slice none 0 0] rfl
  have hI1 := h.below hbx
  have hsz : (w.alloc zo).heap.size = w.heap.size + 1 := by simp
  have hkl := h.len
  clear h
  cases hv : volB n with
  | false =>
    have HR := Lib.hid (new_bad (n := n) (l := l) (by have := vol_no hv; omega))
    clear hkl
    go_enter Try.func10, Try.ntmps10
    go_wp2_with fail
    generalize (w.alloc zo) = w1 at *
    refine (volume_ _ n hn0).mono ?_
    rw [hv]
    rintro e w2 ⟨rfl, rfl⟩
    obtain ⟨x0, x1, x2, f0, f1, f2⟩ := cells3 hq
    go_wp2
    refine bodyPost_ret (results_m rfl rfl (blk_set3 hq (.int .i64 0) (.int .i64 0) (.slice none 0 0))) rfl ?_
    exact ans_zero HR.out (below_set3 hbx (Nat.le_refl _) (Nat.le_refl _) _ _ _)
  | true =>
    have hv2 := vol_is hv
    by_cases hk0 : k = 0
    · have HR := Lib.hid (new_bad (n := n) (l := l) (.inr (.inr (.inl (List.eq_nil_of_length_eq_zero (by omega))))))
      have t0 : ((k : Int) == 0) = true := by simp [hk0]
      clear hkl hk0
      go_enter Try.func10, Try.ntmps10
      go_wp2_with fail
      generalize (w.alloc zo) = w1 at *
      refine (volume_ _ n hn0).mono ?_
      rw [hv]
      rintro e w2 ⟨rfl, rfl⟩
      obtain ⟨x0, x1, x2, f0, f1, f2⟩ := cells3 hq
      go_wp2
      refine bodyPost_ret (results_m rfl rfl (blk_set3 hq (.int .i64 0) (.int .i64 0) (.slice none 0 0))) rfl ?_
      exact ans_zero HR.out (below_set3 hbx (Nat.le_refl _) (Nat.le_refl _) _ _ _)
    · have t0 : ((k : Int) == 0) = false := by simp; omega
      have hne : l ≠ [] := fun e => by rw [e] at hkl; simp at hkl; omega
      cases hm : l.all ndB with
      | false =>
        have HR := Lib.hid (new_bad (n := n) (l := l) (.inr (.inr (.inr hm))))
        clear hkl hk0
        go_enter Try.func10, Try.ntmps10
        go_wp2_with fail
        generalize (w.alloc zo) = w1 at *
        refine (volume_ _ n hn0).mono ?_
        rw [hv]
        rintro e w2 ⟨rfl, rfl⟩
        go_wp2_with fail
        refine (may_ _ A k c l hI1 hk).mono ?_
        rw [hm]
        rintro e w3 ⟨rfl, rfl⟩
        obtain ⟨x0, x1, x2, f0, f1, f2⟩ := cells3 hq
        go_wp2
        refine bodyPost_ret (results_m rfl rfl (blk_set3 hq (.int .i64 0) (.int .i64 0) (.slice none 0 0))) rfl ?_
        exact ans_zero HR.out (below_set3 hbx (Nat.le_refl _) (Nat.le_refl _) _ _ _)
      | true =>
        obtain ⟨M, hM⟩ : ∃ M : Int, min n 16 = M := ⟨_, rfl⟩
        by_cases hbig : 16 < l.length ∨ n < (l.length : Int)
        · have HR := Lib.hid (new_many (n := n) (l := l) hv2.1 hv2.2 hne hm hbig)
          have t1 : M < (k : Int) := by rw [← hM]; omega
          clear hkl hk0 hbig
          go_enter Try.func10, Try.ntmps10
          go_wp2_with fail
          generalize (w.alloc zo) = w1 at *
          refine (volume_ _ n hn0).mono ?_
          rw [hv]
          rintro e w2 ⟨rfl, rfl⟩
          go_wp2_with fail
          refine (may_ _ A k c l hI1 hk).mono ?_
          rw [hm]
          rintro e w3 ⟨rfl, rfl⟩
          obtain ⟨x0, x1, x2, f0, f1, f2⟩ := cells3 hq
          go_wp2
          refine bodyPost_ret (results_m rfl rfl (blk_set3 hq (.int .i64 0) (.int .i64 0) (.slice none 0 0))) rfl ?_
          exact ans_zero HR.out (below_set3 hbx (Nat.le_refl _) (Nat.le_refl _) _ _ _)
        · have HR := Lib.hid (new_is (n := n) (l := l) hv2.1 hv2.2 hne hm hbig)
          have t1 : ¬ M < (k : Int) := by rw [← hM]; omega
          have hk16 : k ≤ 16 := by omega
          obtain ⟨N, rfl⟩ := Int.eq_ofNat_of_zero_le (show 0 ≤ n by omega)
          have HN := Lib.hid (show (newA (N : Int) l) = (⟨1, (N : Int), shareL (N / k) (N % k) 0 0 l⟩, 0) by rw [HR.out, ← hkl]; rfl)
          have hkn : k ≤ N := by omega
          have hlk := Lib.hid hkl
          have hall : ∀ x ∈ l, 0 ≤ x ∧ x < 16 := fun x hx => by have := List.all_eq_true.1 hm x hx; simpa [ndB] using this
          clear hkl hbig
          go_enter Try.func10, Try.ntmps10
          go_wp2_with fail
          generalize (w.alloc zo) = w1 at *
          refine (volume_ _ _ hn0).mono ?_
          rw [hv]
          rintro e w2 ⟨rfl, rfl⟩
          go_wp2_with fail
          refine (may_ _ A k c l hI1 hk).mono ?_
          rw [hm]
          rintro e w3 ⟨rfl, rfl⟩
          go_wp2_with fail
          have hI := hI1.2
          refine (share_ _ N A k c l hI1 (by omega) hk16 (by omega)).mono ?_
          rintro e w4 ⟨v4, rfl, hown4, hb4⟩
          obtain ⟨A4, c4, rfl, hc4, hm4, hA4⟩ := own_form hown4
          unfold maxLen at hm4
          have hfit := share_fit (n := N) (l := l) (by omega) (by have := hlk.out; omega) hI
          rw [← hlk.out] at hfit
          have hB4 := below_step hbx hb4 (Nat.le_refl _)
          have hq4 := hq.keep hb4
          obtain ⟨x0, x1, x2, f0, f1, f2⟩ := cells3 hq4
          have hG : Got w4 w1.heap.size A4 k c4 (⟨1, (N : Int), shareL (N / k) (N % k) 0 0 l⟩ : Mp) := ⟨hown4, ⟨by unfold I64; simp, by unfold I64; simp only; omega, po_ps hown4 hfit, hc4, hm4, fun h => (hA4 h).2⟩⟩
          have hqq : w.heap.size < w1.heap.size := by omega
          obtain ⟨r, hr⟩ : ∃ r : Mp × Int, r = (⟨1, (N : Int), shareL (N / k) (N % k) 0 0 l⟩, 0) := ⟨_, rfl⟩
          have Hr := Lib.hid hr
          clear hM t1 hr hsz hq hI1
          go_wp2
          refine bodyPost_ret (results_m rfl rfl (blk_set3 hq4 (.int .i64 1) (.int .i64 (N : Int)) (.slice A4 k c4))) rfl ?_
          rw [HN.out]
          exact ans_set (q := w.heap.size) (r := (⟨1, (N : Int), shareL (N / k) (N % k) 0 0 l⟩, 0)) hG hqq (Nat.le_refl _) hB4 _ _ _
end
end Sma
end Go.Proofs.Ytncapionioeieaa
