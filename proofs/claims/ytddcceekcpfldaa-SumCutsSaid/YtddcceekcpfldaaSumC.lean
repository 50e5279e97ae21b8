/- Proves SumCuts of layer 1 (check sums), for every input, with no condition: the sum of parts hangs on no cuts. -/
import Derived.Test.YtddcceekcpfldaaSumL
import Derived.Test.YtddcceekcpfldaaSumN
import Derived.Test.YtddcceekcpfldaaStab
namespace Go.Proofs.Ytddcceekcpfldaa
open Go.ChangeShapes Go.WideShapes Go.ChangeAt Go.RowKit

/-- What the operations of the last statement of SumCuts give. -/
def cutsV (A : Option Addr) (n c k : Nat) (xs : List UInt8) (i : Nat) (W : World) (v : Value) : Prop :=
  match i with
  | 0 | 3 | 6 | 13 | 16 | 21 => v = .slice A n c
  | 4 | 7 | 17 | 22 => v = .int .i64 (k : Int)
  | 5 | 18 => ∃ D d, v = .slice D k d ∧ Bs W D k (xs.take k) ∧ k ≤ d ∧ d ≤ 9223372036854775807
  | 8 | 23 => ∃ D d, v = .slice D (n - k) d ∧ Bs W D (n - k) (xs.drop k) ∧ n - k ≤ d ∧ d ≤ 9223372036854775807
  | 1 | 14 => ∃ g, v = .slice (some ⟨g, 0, none⟩) 1 1 ∧ Bss W (some ⟨g, 0, none⟩) 1 [xs]
  | 9 => ∃ g, v = .slice (some ⟨g, 0, none⟩) 3 3 ∧ Bss W (some ⟨g, 0, none⟩) 3 [xs.take k, [], xs.drop k]
  | 19 => ∃ g, v = .slice (some ⟨g, 0, none⟩) 1 1 ∧ Bss W (some ⟨g, 0, none⟩) 1 [xs.take k]
  | 2 | 10 | 15 | 24 => v = .int .u32 (adOf [xs] : Nat)
  | 20 => v = .int .u32 (adOf [xs.take k] : Nat)
  | _ => v = .bool true
theorem cutsV_stays (A : Option Addr) (n c k : Nat) (xs : List UInt8) (W W' : World) (j : Nat) (u : Value) (hb : Below W.heap.size W W') (h : cutsV A n c k xs j W u) : cutsV A n c k xs j W' u := by
  unfold cutsV at *
  split at h <;> first | exact h | (obtain ⟨g, e, hg⟩ := h; exact ⟨g, e, hg.below hb⟩) | (obtain ⟨g, d, e, hg, r⟩ := h; exact ⟨g, d, e, hg.below hb, r⟩)

set_option maxRecDepth 100000 in
set_option maxHeartbeats 4000000 in
theorem sumCuts_walk (A : Option Addr) (n c : Nat) (xs : List UInt8) (z : Int) (w : World) (hr : Bs w A n xs) (hA : A = none → n = 0 ∧ c = 0) (hnc : n ≤ c) (hc : c ≤ 140737488351232) (hz : -9223372036854775808 ≤ z ∧ z ≤ 9223372036854775807) :
    Calls Try.prog 6 #[.slice A n c, .int .i64 z] w fun e w' => e = .returned (.bool true) ∧ Below w.heap.size w w' := by
  have hc' : c ≤ 9223372036854775807 := by omega
  by_cases h0 : 0 < n
  · have tb := tmod_bounds z n h0
    obtain ⟨k, hk⟩ : ∃ k : Nat, (z.tmod n + n) % n = (k : Int) := ⟨((z.tmod n + n) % n).toNat, by have := Int.emod_nonneg (z.tmod n + n) (b := (n : Int)) (by omega); omega⟩
    have hkn : k < n := by have := Int.emod_lt_of_pos (z.tmod n + n) (b := (n : Int)) (by omega); omega
    go_enter Try.func6, Try.ntmps6
    go_wp2
    rw [hk]
    clear hk tb hA
    have hkl : k ≤ n := by omega
    have e1 := Lib.hid (show adOf [xs.take k, [], xs.drop k] = adOf [xs] by
      simp [adOf]; rw [show adMore (adMore 1 (xs.take k)) [] = adMore 1 (xs.take k) from by rw [adMore_append, List.append_nil], adMore_append, List.take_append_drop])
    have e2 := Lib.hid (show adMore (adOf [xs.take k]) (xs.drop k) = adOf [xs] by
      simp [adOf]; rw [adMore_append, List.take_append_drop])
    have t1 : (k : Int) ≤ ((n : Nat) : Int) := by omega
    have t2 : k ≤ c := by omega
    refine wp_region_mem (cutsV A n c k xs) (by kernel_rfl) (by kernel_rfl) (by kernel_rfl) (cutsV_stays A n c k xs) ?_ ?_
    · refine ⟨?_, ?_, ?_, ?_, ?_, ?_, ?_, ?_, ?_, ?_, ?_, ?_, ?_, ?_, ?_, ?_, ?_, ?_, ?_, ?_, ?_, ?_, ?_, ?_, ?_, ?_, ?_, ?_, ?_, ?_, ?_, trivial⟩
      all_goals intro W a hR
      all_goals first
        | (intro h0
           refine ⟨fun _ => ?_, fun h => absurd trivial h⟩
           change a.tmps.getD _ undef = _ at h0
           unfold Gives
           simp [execOp, Act.eval, get_of h0, go_sem]
           exact ⟨Below.refl _ _, rfl⟩)
        | (intro h0 h1
           refine ⟨fun _ => ?_, fun h => absurd trivial h⟩
           change a.tmps.getD _ undef = _ at h0
           change a.tmps.getD _ undef = _ at h1
           unfold Gives
           simp [execOp, Act.eval, get_of h0, get_of h1, go_sem]
           exact ⟨Below.refl _ _, rfl⟩)
        | (intro h0 hg
           change a.tmps.getD _ undef = _ at h0
           change a.tmps.getD _ undef = _ at hg
           refine ⟨fun _ => ?_, fun h => absurd (congrArg some hg) h⟩
           unfold Gives
           simp [execOp, Act.eval, get_of h0, go_sem]
           exact ⟨Below.refl _ _, rfl⟩)
        | (intro h0 h1 hg
           change a.tmps.getD _ undef = _ at h0
           change a.tmps.getD _ undef = _ at h1
           change a.tmps.getD _ undef = _ at hg
           refine ⟨fun _ => ?_, fun h => absurd (congrArg some hg) h⟩
           unfold Gives
           simp [execOp, Act.eval, get_of h0, get_of h1, go_sem]
           exact ⟨Below.refl _ _, rfl⟩)
        | skip
      · intro h0
        change a.tmps.getD _ undef = _ at h0
        refine ⟨fun _ => ?_, fun h => absurd trivial h⟩
        unfold Gives
        simp [execOp, Act.eval, get_of h0, go_sem]
        exact ⟨(Below.refl _ _).alloc (Nat.le_refl _) _, _, rfl, Bss.row1 rfl (hr.below hR) hnc hc'⟩
      · intro h0
        obtain ⟨g, h0, hb⟩ : ∃ g, a.tmps.getD 20 undef = .slice (some ⟨g, 0, none⟩) 1 1 ∧ Bss W (some ⟨g, 0, none⟩) 1 [xs] := h0
        refine ⟨fun _ => ?_, fun h => absurd trivial h⟩
        unfold Gives
        simp [execOp, Act.eval, get_of h0, go_sem]
        refine (sumOf _ _ _ _ _ hb (by omega)).mono ?_
        rintro e W' ⟨rfl, rfl⟩
        exact ⟨_, rfl, Below.refl _ _, rfl⟩
      · intro h0 h1
        change a.tmps.getD _ undef = _ at h0
        change a.tmps.getD _ undef = _ at h1
        refine ⟨fun _ => ?_, fun h => absurd trivial h⟩
        unfold Gives
        simp [execOp, Act.eval, get_of h0, get_of h1, t1, t2, go_sem]
        exact ⟨Below.refl _ _, _, _, rfl, (hr.below hR).take hkl, t2, hc'⟩
      · intro h0 h1
        change a.tmps.getD _ undef = _ at h0
        change a.tmps.getD _ undef = _ at h1
        refine ⟨fun _ => ?_, fun h => absurd trivial h⟩
        unfold Gives
        simp [execOp, Act.eval, get_of h0, get_of h1, t1, t2, go_sem]
        exact ⟨Below.refl _ _, _, _, rfl, (hr.below hR).drop hkl hnc, by omega, by omega⟩
      · intro h0 h1
        obtain ⟨D, d, h0, hb, hd1, hd2⟩ : ∃ D d, a.tmps.getD 24 undef = .slice D k d ∧ Bs W D k (xs.take k) ∧ k ≤ d ∧ d ≤ 9223372036854775807 := h0
        obtain ⟨E, e, h1, hb2, he1, he2⟩ : ∃ D d, a.tmps.getD 27 undef = .slice D (n - k) d ∧ Bs W D (n - k) (xs.drop k) ∧ (n - k) ≤ d ∧ d ≤ 9223372036854775807 := h1
        refine ⟨fun _ => ?_, fun h => absurd trivial h⟩
        unfold Gives
        simp [execOp, Act.eval, get_of h0, get_of h1, go_sem]
        exact ⟨(Below.refl _ _).alloc (Nat.le_refl _) _, _, rfl, Bss.of3 rfl hb Bs.nil hb2 hd1 hd2 (Nat.le_refl _) (Nat.zero_le _) he1 he2⟩
      · intro h0
        obtain ⟨g, h0, hb⟩ : ∃ g, a.tmps.getD 28 undef = .slice (some ⟨g, 0, none⟩) 3 3 ∧ Bss W (some ⟨g, 0, none⟩) 3 [xs.take k, [], xs.drop k] := h0
        refine ⟨fun _ => ?_, fun h => absurd trivial h⟩
        unfold Gives
        simp [execOp, Act.eval, get_of h0, go_sem]
        refine (sumOf _ _ _ _ _ hb (by omega)).mono ?_
        rw [e1.out]
        rintro e W' ⟨rfl, rfl⟩
        exact ⟨_, rfl, Below.refl _ _, rfl⟩
      · intro h0 hg
        change a.tmps.getD _ undef = _ at h0
        change a.tmps.getD _ undef = _ at hg
        refine ⟨fun _ => ?_, fun h => absurd (congrArg some hg) h⟩
        unfold Gives
        simp [execOp, Act.eval, get_of h0, go_sem]
        exact ⟨(Below.refl _ _).alloc (Nat.le_refl _) _, _, rfl, Bss.row1 rfl (hr.below hR) hnc hc'⟩
      · intro h0 hg
        change a.tmps.getD _ undef = _ at hg
        obtain ⟨g, h0, hb⟩ : ∃ g, a.tmps.getD 33 undef = .slice (some ⟨g, 0, none⟩) 1 1 ∧ Bss W (some ⟨g, 0, none⟩) 1 [xs] := h0
        refine ⟨fun _ => ?_, fun h => absurd (congrArg some hg) h⟩
        unfold Gives
        simp [execOp, Act.eval, get_of h0, go_sem]
        refine (sumOf _ _ _ _ _ hb (by omega)).mono ?_
        rintro e W' ⟨rfl, rfl⟩
        exact ⟨_, rfl, Below.refl _ _, rfl⟩
      · intro h0 h1 hg
        change a.tmps.getD _ undef = _ at h0
        change a.tmps.getD _ undef = _ at h1
        change a.tmps.getD _ undef = _ at hg
        refine ⟨fun _ => ?_, fun h => absurd (congrArg some hg) h⟩
        unfold Gives
        simp [execOp, Act.eval, get_of h0, get_of h1, t1, t2, go_sem]
        exact ⟨Below.refl _ _, _, _, rfl, (hr.below hR).take hkl, t2, hc'⟩
      · intro h0 hg
        change a.tmps.getD _ undef = _ at hg
        obtain ⟨D, d, h0, hb, hd1, hd2⟩ : ∃ D d, a.tmps.getD 37 undef = .slice D k d ∧ Bs W D k (xs.take k) ∧ k ≤ d ∧ d ≤ 9223372036854775807 := h0
        refine ⟨fun _ => ?_, fun h => absurd (congrArg some hg) h⟩
        unfold Gives
        simp [execOp, Act.eval, get_of h0, go_sem]
        exact ⟨(Below.refl _ _).alloc (Nat.le_refl _) _, _, rfl, Bss.row1 rfl hb hd1 hd2⟩
      · intro h0 hg
        change a.tmps.getD _ undef = _ at hg
        obtain ⟨g, h0, hb⟩ : ∃ g, a.tmps.getD 38 undef = .slice (some ⟨g, 0, none⟩) 1 1 ∧ Bss W (some ⟨g, 0, none⟩) 1 [xs.take k] := h0
        refine ⟨fun _ => ?_, fun h => absurd (congrArg some hg) h⟩
        unfold Gives
        simp [execOp, Act.eval, get_of h0, go_sem]
        refine (sumOf _ _ _ _ _ hb (by omega)).mono ?_
        rintro e W' ⟨rfl, rfl⟩
        exact ⟨_, rfl, Below.refl _ _, rfl⟩
      · intro h0 h1 hg
        change a.tmps.getD _ undef = _ at h0
        change a.tmps.getD _ undef = _ at h1
        change a.tmps.getD _ undef = _ at hg
        refine ⟨fun _ => ?_, fun h => absurd (congrArg some hg) h⟩
        unfold Gives
        simp [execOp, Act.eval, get_of h0, get_of h1, t1, t2, go_sem]
        exact ⟨Below.refl _ _, _, _, rfl, (hr.below hR).drop hkl hnc, by omega, by omega⟩
      · intro h0 h1 hg
        change a.tmps.getD _ undef = _ at h0
        change a.tmps.getD _ undef = _ at hg
        obtain ⟨E, e, h1, hb2, he1, he2⟩ : ∃ D d, a.tmps.getD 42 undef = .slice D (n - k) d ∧ Bs W D (n - k) (xs.drop k) ∧ (n - k) ≤ d ∧ d ≤ 9223372036854775807 := h1
        refine ⟨fun _ => ?_, fun h => absurd (congrArg some hg) h⟩
        unfold Gives
        simp [execOp, Act.eval, get_of h0, get_of h1, go_sem]
        refine (sumMore _ (adOf_lt _) _ _ _ _ _ hb2 he1 he2).mono ?_
        rw [e2.out]
        rintro e W' ⟨rfl, rfl⟩
        exact ⟨_, rfl, Below.refl _ _, rfl⟩
      · intro hg
        change a.tmps.getD _ undef = _ at hg
        refine ⟨fun _ => ?_, fun h => absurd (congrArg some hg) h⟩
        unfold Gives
        simp [execOp, Act.eval, go_sem]
        refine (alive_ _).mono ?_
        rintro e W' ⟨rfl, hb⟩
        exact ⟨_, rfl, hb, rfl⟩
    · intro a W hR hd hs hall
      have h4 : a.tmps.getD 4 undef = .bool true := hall 4
      clear hall hs
      refine ‹∀ (a : Act) (w : World), Code.wp _ Code.ret _ a w → _› a W (wp_ret ?_)
      exact bodyPost_ret (results_tmp rfl _ _ _) hd ⟨congrArg Ending.returned h4, hR⟩
  · clear hA
    go_enter Try.func6, Try.ntmps6
    go_wp2
    obtain ⟨k, hk⟩ : ∃ k : Nat, k = 0 := ⟨0, rfl⟩
    have hkl : k ≤ n := by omega
    have Hk := Lib.hid hk
    rw [show (Value.int IntKind.i64 0) = Value.int IntKind.i64 (k : Int) by rw [hk]; rfl]
    clear hk
    have e1 := Lib.hid (show adOf [xs.take k, [], xs.drop k] = adOf [xs] by
      simp [adOf]; rw [show adMore (adMore 1 (xs.take k)) [] = adMore 1 (xs.take k) from by rw [adMore_append, List.append_nil], adMore_append, List.take_append_drop])
    have e2 := Lib.hid (show adMore (adOf [xs.take k]) (xs.drop k) = adOf [xs] by
      simp [adOf]; rw [adMore_append, List.take_append_drop])
    have t1 : (k : Int) ≤ ((n : Nat) : Int) := by omega
    have t2 : k ≤ c := by omega
    refine wp_region_mem (cutsV A n c k xs) (by kernel_rfl) (by kernel_rfl) (by kernel_rfl) (cutsV_stays A n c k xs) ?_ ?_
    · refine ⟨?_, ?_, ?_, ?_, ?_, ?_, ?_, ?_, ?_, ?_, ?_, ?_, ?_, ?_, ?_, ?_, ?_, ?_, ?_, ?_, ?_, ?_, ?_, ?_, ?_, ?_, ?_, ?_, ?_, ?_, ?_, trivial⟩
      all_goals intro W a hR
      all_goals first
        | (intro h0
           refine ⟨fun _ => ?_, fun h => absurd trivial h⟩
           change a.tmps.getD _ undef = _ at h0
           unfold Gives
           simp [execOp, Act.eval, get_of h0, go_sem]
           exact ⟨Below.refl _ _, rfl⟩)
        | (intro h0 h1
           refine ⟨fun _ => ?_, fun h => absurd trivial h⟩
           change a.tmps.getD _ undef = _ at h0
           change a.tmps.getD _ undef = _ at h1
           unfold Gives
           simp [execOp, Act.eval, get_of h0, get_of h1, go_sem]
           exact ⟨Below.refl _ _, rfl⟩)
        | (intro h0 hg
           change a.tmps.getD _ undef = _ at h0
           change a.tmps.getD _ undef = _ at hg
           refine ⟨fun _ => ?_, fun h => absurd (congrArg some hg) h⟩
           unfold Gives
           simp [execOp, Act.eval, get_of h0, go_sem]
           exact ⟨Below.refl _ _, rfl⟩)
        | (intro h0 h1 hg
           change a.tmps.getD _ undef = _ at h0
           change a.tmps.getD _ undef = _ at h1
           change a.tmps.getD _ undef = _ at hg
           refine ⟨fun _ => ?_, fun h => absurd (congrArg some hg) h⟩
           unfold Gives
           simp [execOp, Act.eval, get_of h0, get_of h1, go_sem]
           exact ⟨Below.refl _ _, rfl⟩)
        | skip
      · intro h0
        change a.tmps.getD _ undef = _ at h0
        refine ⟨fun _ => ?_, fun h => absurd trivial h⟩
        unfold Gives
        simp [execOp, Act.eval, get_of h0, go_sem]
        exact ⟨(Below.refl _ _).alloc (Nat.le_refl _) _, _, rfl, Bss.row1 rfl (hr.below hR) hnc hc'⟩
      · intro h0
        obtain ⟨g, h0, hb⟩ : ∃ g, a.tmps.getD 20 undef = .slice (some ⟨g, 0, none⟩) 1 1 ∧ Bss W (some ⟨g, 0, none⟩) 1 [xs] := h0
        refine ⟨fun _ => ?_, fun h => absurd trivial h⟩
        unfold Gives
        simp [execOp, Act.eval, get_of h0, go_sem]
        refine (sumOf _ _ _ _ _ hb (by omega)).mono ?_
        rintro e W' ⟨rfl, rfl⟩
        exact ⟨_, rfl, Below.refl _ _, rfl⟩
      · intro h0 h1
        change a.tmps.getD _ undef = _ at h0
        change a.tmps.getD _ undef = _ at h1
        refine ⟨fun _ => ?_, fun h => absurd trivial h⟩
        unfold Gives
        simp [execOp, Act.eval, get_of h0, get_of h1, t1, t2, go_sem]
        exact ⟨Below.refl _ _, _, _, rfl, (hr.below hR).take hkl, t2, hc'⟩
      · intro h0 h1
        change a.tmps.getD _ undef = _ at h0
        change a.tmps.getD _ undef = _ at h1
        refine ⟨fun _ => ?_, fun h => absurd trivial h⟩
        unfold Gives
        simp [execOp, Act.eval, get_of h0, get_of h1, t1, t2, go_sem]
        exact ⟨Below.refl _ _, _, _, rfl, (hr.below hR).drop hkl hnc, by omega, by omega⟩
      · intro h0 h1
        obtain ⟨D, d, h0, hb, hd1, hd2⟩ : ∃ D d, a.tmps.getD 24 undef = .slice D k d ∧ Bs W D k (xs.take k) ∧ k ≤ d ∧ d ≤ 9223372036854775807 := h0
        obtain ⟨E, e, h1, hb2, he1, he2⟩ : ∃ D d, a.tmps.getD 27 undef = .slice D (n - k) d ∧ Bs W D (n - k) (xs.drop k) ∧ (n - k) ≤ d ∧ d ≤ 9223372036854775807 := h1
        refine ⟨fun _ => ?_, fun h => absurd trivial h⟩
        unfold Gives
        simp [execOp, Act.eval, get_of h0, get_of h1, go_sem]
        exact ⟨(Below.refl _ _).alloc (Nat.le_refl _) _, _, rfl, Bss.of3 rfl hb Bs.nil hb2 hd1 hd2 (Nat.le_refl _) (Nat.zero_le _) he1 he2⟩
      · intro h0
        obtain ⟨g, h0, hb⟩ : ∃ g, a.tmps.getD 28 undef = .slice (some ⟨g, 0, none⟩) 3 3 ∧ Bss W (some ⟨g, 0, none⟩) 3 [xs.take k, [], xs.drop k] := h0
        refine ⟨fun _ => ?_, fun h => absurd trivial h⟩
        unfold Gives
        simp [execOp, Act.eval, get_of h0, go_sem]
        refine (sumOf _ _ _ _ _ hb (by omega)).mono ?_
        rw [e1.out]
        rintro e W' ⟨rfl, rfl⟩
        exact ⟨_, rfl, Below.refl _ _, rfl⟩
      · intro h0 hg
        change a.tmps.getD _ undef = _ at h0
        change a.tmps.getD _ undef = _ at hg
        refine ⟨fun _ => ?_, fun h => absurd (congrArg some hg) h⟩
        unfold Gives
        simp [execOp, Act.eval, get_of h0, go_sem]
        exact ⟨(Below.refl _ _).alloc (Nat.le_refl _) _, _, rfl, Bss.row1 rfl (hr.below hR) hnc hc'⟩
      · intro h0 hg
        change a.tmps.getD _ undef = _ at hg
        obtain ⟨g, h0, hb⟩ : ∃ g, a.tmps.getD 33 undef = .slice (some ⟨g, 0, none⟩) 1 1 ∧ Bss W (some ⟨g, 0, none⟩) 1 [xs] := h0
        refine ⟨fun _ => ?_, fun h => absurd (congrArg some hg) h⟩
        unfold Gives
        simp [execOp, Act.eval, get_of h0, go_sem]
        refine (sumOf _ _ _ _ _ hb (by omega)).mono ?_
        rintro e W' ⟨rfl, rfl⟩
        exact ⟨_, rfl, Below.refl _ _, rfl⟩
      · intro h0 h1 hg
        change a.tmps.getD _ undef = _ at h0
        change a.tmps.getD _ undef = _ at h1
        change a.tmps.getD _ undef = _ at hg
        refine ⟨fun _ => ?_, fun h => absurd (congrArg some hg) h⟩
        unfold Gives
        simp [execOp, Act.eval, get_of h0, get_of h1, t1, t2, go_sem]
        exact ⟨Below.refl _ _, _, _, rfl, (hr.below hR).take hkl, t2, hc'⟩
      · intro h0 hg
        change a.tmps.getD _ undef = _ at hg
        obtain ⟨D, d, h0, hb, hd1, hd2⟩ : ∃ D d, a.tmps.getD 37 undef = .slice D k d ∧ Bs W D k (xs.take k) ∧ k ≤ d ∧ d ≤ 9223372036854775807 := h0
        refine ⟨fun _ => ?_, fun h => absurd (congrArg some hg) h⟩
        unfold Gives
        simp [execOp, Act.eval, get_of h0, go_sem]
        exact ⟨(Below.refl _ _).alloc (Nat.le_refl _) _, _, rfl, Bss.row1 rfl hb hd1 hd2⟩
      · intro h0 hg
        change a.tmps.getD _ undef = _ at hg
        obtain ⟨g, h0, hb⟩ : ∃ g, a.tmps.getD 38 undef = .slice (some ⟨g, 0, none⟩) 1 1 ∧ Bss W (some ⟨g, 0, none⟩) 1 [xs.take k] := h0
        refine ⟨fun _ => ?_, fun h => absurd (congrArg some hg) h⟩
        unfold Gives
        simp [execOp, Act.eval, get_of h0, go_sem]
        refine (sumOf _ _ _ _ _ hb (by omega)).mono ?_
        rintro e W' ⟨rfl, rfl⟩
        exact ⟨_, rfl, Below.refl _ _, rfl⟩
      · intro h0 h1 hg
        change a.tmps.getD _ undef = _ at h0
        change a.tmps.getD _ undef = _ at h1
        change a.tmps.getD _ undef = _ at hg
        refine ⟨fun _ => ?_, fun h => absurd (congrArg some hg) h⟩
        unfold Gives
        simp [execOp, Act.eval, get_of h0, get_of h1, t1, t2, go_sem]
        exact ⟨Below.refl _ _, _, _, rfl, (hr.below hR).drop hkl hnc, by omega, by omega⟩
      · intro h0 h1 hg
        change a.tmps.getD _ undef = _ at h0
        change a.tmps.getD _ undef = _ at hg
        obtain ⟨E, e, h1, hb2, he1, he2⟩ : ∃ D d, a.tmps.getD 42 undef = .slice D (n - k) d ∧ Bs W D (n - k) (xs.drop k) ∧ (n - k) ≤ d ∧ d ≤ 9223372036854775807 := h1
        refine ⟨fun _ => ?_, fun h => absurd (congrArg some hg) h⟩
        unfold Gives
        simp [execOp, Act.eval, get_of h0, get_of h1, go_sem]
        refine (sumMore _ (adOf_lt _) _ _ _ _ _ hb2 he1 he2).mono ?_
        rw [e2.out]
        rintro e W' ⟨rfl, rfl⟩
        exact ⟨_, rfl, Below.refl _ _, rfl⟩
      · intro hg
        change a.tmps.getD _ undef = _ at hg
        refine ⟨fun _ => ?_, fun h => absurd (congrArg some hg) h⟩
        unfold Gives
        simp [execOp, Act.eval, go_sem]
        refine (alive_ _).mono ?_
        rintro e W' ⟨rfl, hb⟩
        exact ⟨_, rfl, hb, rfl⟩
    · intro a W hR hd hs hall
      have h4 : a.tmps.getD 4 undef = .bool true := hall 4
      clear hall hs
      refine ‹∀ (a : Act) (w : World), Code.wp _ Code.ret _ a w → _› a W (wp_ret ?_)
      exact bodyPost_ret (results_tmp rfl _ _ _) hd ⟨congrArg Ending.returned h4, hR⟩

theorem sumCuts_lifted (os : Os) (started : os.Started) (H : Type) (enc : TypeId × Value → H) :
    ReturnsInHanded {} Try.checked os 6 .any (Rows.sumCutsSpec.pre6 enc Try.prog Try.f6 Rows.sumCutsRow.domain false) (Rows.sumCutsSpec.post enc Try.prog Try.f6 false true false false) := by
  refine law_lifted (C := Try.checked) (tb := 4) own_ started (by kernel_rfl) Try.func6
    (ChangeSpec.witness6 (enc := enc) (C := Try.checked) false ⟨#[], #[.slice none 0 0, .int .i64 0], []⟩ 8 (by kernel_rfl) (by kernel_rfl) (by kernel_rfl) (by kernel_rfl))
    rfl rfl Try.underlying4 laidOut_ (by kernel_rfl) (fun ds h => by match ds, h with | [_, _], _ => rfl) ?_
  intro W base args ds p hval0 hA0 _ hsz0
  have hval : ∀ (j : Nat) t v, Try.f6.params[j]? = some t → args[j]? = some v → Value.okWide Try.prog W .any base t v := hval0
  have hA : DataW.TrodAll enc Try.prog W 0 (fun _ => true) true Try.f6.params.toList args.toList ds p := hA0
  have hsz : (DataW.weightsEach Try.prog Try.f6.params.toList ds).all (· ≤ reachBytes) = true := hsz0
  clear hval0 hA0 hsz0
  rw [Try.params6] at hA hval hsz
  obtain ⟨v0, v1, d0, d1, p0, p1, rfl, rfl, rfl, h0, h1⟩ := trodAll_two hA
  obtain ⟨A0, n0, c0, xs0, rfl, hb0, hn0, ha0, hm0, hw0⟩ := open_bytes Try.underlying24 Try.underlying5 cells_u8 bytes_u8 (hval 0 _ v0 rfl rfl) h0
  have hc0 := hw0 (weight_at hsz (j := 0) rfl rfl)
  obtain ⟨z1, rfl, rfl, rfl, ws1⟩ := open_int Try.underlying3 (hval 1 _ v1 rfl rfl) h1
  have hs1 := bounds_i64 ws1
  exact sumCuts_walk A0 n0 c0 xs0 z1 W hb0 ha0 hn0 hc0 hs1

/-- SumCuts, for every input: the statement as it was given. -/
theorem sumCuts_holds : Rows.SumCutsSaid :=
  OpenClaim.holds_of_wide 6 Try.f6 rfl rfl rfl rfl rfl rfl rfl ⟨rfl, rfl, rfl, rfl, rfl⟩ rfl rfl rfl rfl rfl (by kernel_rfl) Try.func6 (by kernel_rfl)
    (of_decide_eq_true (by kernel_rfl)) (by unfold Func.isWrapper; first | (rw [if_pos (by decide +kernel)]; kernel_rfl) | (rw [if_neg (by decide +kernel)]; exact ⟨rfl, rfl⟩))
    (fun os started H enc _ => sumCuts_lifted os started H enc)
end Go.Proofs.Ytddcceekcpfldaa
