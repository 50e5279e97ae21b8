/- Layer 10: rows of bytes: slices.Clone, slices.Grow of nothing, slices.Concat. -/
import Derived.Test.YtofoecpnphoohaaStrA
import Derived.Test.YtofoecpnphoohaaZeros
import Derived.Test.YtofoecpnphoohaaByt
import Derived.Test.YtofoecpnphoohaaSumWb
set_option linter.all false
namespace Go.Proofs.Ytofoecpnphoohaa
open Go.RowKit
namespace Str
open Blo (I64)
section
variable (w : World)
set_option maxRecDepth 100000 in
set_option maxHeartbeats 400000 in
theorem sclone_ (A : Option Addr) (n c : Nat) (xs : List UInt8) (hr : Bs w A n xs) (hA : A = none → n = 0 ∧ c = 0) (hnc : n ≤ c) (hc : c ≤ 9223372036854775807) (hnb : n ≤ 140737488351300) :
    Calls Try.prog 24 #[.slice A n c] w fun e w' => ∃ v, e = .returned v ∧ w'.ownsRow w.heap.size 5 1 v n (bvs xs) ∧ Below w.heap.size w w' := by
  obtain ⟨i0, hi0, hz0, hz1, hz2⟩ := info_parts info_u8
  have Hz := Lib.hid hz2
  have Hl := Lib.hid hr.len
  clear hz2
  have hne := fun (w : World) (a : Option Addr) (n c : Nat) => Lib.run_eql_slice_nil (P := Try.prog) w 23 5 a n c 0 0 Try.underlying23
  cases A with
  | none =>
    obtain ⟨rfl, rfl⟩ := hA rfl
    have hx : xs = [] := List.eq_nil_of_length_eq_zero (by rw [← Hl.out])
    subst hx
    go_enter Try.func24, Try.ntmps24
    go_wp2
    go_ret
    exact ⟨_, rfl, own_nil _ _ _ _, Below.refl _ _⟩
  | some a =>
    go_enter Try.func24, Try.ntmps24
    go_wp2_with (first
    | (at_builtin
       refine wpList_app _ rfl (.tmp 5) (.tmp 6) _ rfl w.heap.size 5 i0 (.int .u8 0) 1 1 Try.underlying23 hi0 hz0 hz1 Hz.out rfl Nat.one_pos (.slice (some ⟨w.heap.size, 0, none⟩) 0 0) 0 [] rfl (own_new w w.heap.size #[] 5 rfl (Nat.le_refl _) (by unfold maxLen; omega)) (some a) n c (bvs xs) rfl (by simp) (hr.alloc _) (bvs_one xs) (by unfold maxLen; omega) (by omega) (by simp) ?_
       intro v2 w2 hown2 hg2 hat2
       have hb2 : Below w.heap.size w w2 := ((Below.refl _ _).alloc (Nat.le_refl _) _).grown hg2 (by simp) (fun k hk => by simp [Value.ownBlock] at hk; omega)
       simp only [Nat.zero_add, List.nil_append] at hown2))
    go_ret
    exact ⟨_, rfl, hown2, hb2⟩
/-- No element of an owned row. -/
theorem own_none {w : World} {base : Nat} {e : TypeId} {A : Option Addr} {n c : Nat} {xs : List Value} (h : w.ownsRow base e 1 (.slice A n c) n xs) : w.ownsRow base e 1 (.slice A 0 c) 0 [] := by
  refine ⟨rfl, ?_⟩
  rcases h.2 with ⟨h1, h2⟩ | ⟨g, cap, cur, e1, hg, hh, hnc, hcm, hcs, hx⟩
  · injection h1 with a1 a2 a3
    subst a1 a3
    exact .inl ⟨rfl, rfl⟩
  · injection e1 with a1 a2 a3
    subst a1 a3
    exact .inr ⟨g, c, cur, rfl, hg, hh, Nat.zero_le _, hcm, hcs, by simp⟩
set_option maxRecDepth 100000 in
set_option maxHeartbeats 1000000 in
theorem grow_ (n : Nat) (hn : n ≤ 140737488351300) :
    Calls Try.prog 36 #[.slice none 0 0, .int .i64 (n : Int)] w fun e w' => ∃ v, e = .returned v ∧ w'.ownsRow w.heap.size 5 1 v 0 [] ∧ Below w.heap.size w w' := by
  obtain ⟨i0, hi0, hz0, hz1, hz2⟩ := info_parts info_u8
  have Hz := Lib.hid hz2
  clear hz2
  have h0 : (0 : Int) ≤ (n : Int) := by omega
  by_cases hp : n = 0
  · subst hp
    go_enter Try.func36, Try.ntmps36
    go_wp2
    go_ret
    exact ⟨_, rfl, own_nil _ _ _ _, Below.refl _ _⟩
  · have hp' : (0 : Int) < (n : Int) := by omega
    go_enter Try.func36, Try.ntmps36
    go_wp2_with (first
      | (at_builtin
         refine wpList_app_zeros _ rfl (.tmp 20) (.tmp 21) _ _ rfl w.heap.size 5 i0 (.int .u8 0) 1 .i64 .i64 Try.underlying23 Try.underlying3 hi0 hz0 hz1 Hz.out rfl rfl (.slice none 0 0) 0 [] rfl (own_nil _ _ _ _) (n : Int) n rfl rfl (by unfold maxLen; omega) (by omega) (Nat.le_refl _) ?_
         intro v2 w2 hown2 hg2 hat2
         have hb2 : Below w.heap.size w w2 := grown_none_below hg2
         simp only [Nat.zero_add, List.nil_append] at hown2
         obtain ⟨A2, c2, rfl, hc2, hm2, ha2⟩ := own_form hown2
         unfold maxLen at hm2))
    go_ret
    exact ⟨_, rfl, own_none hown2, hb2⟩
def lens (l : List (List UInt8)) : Nat := (l.map List.length).sum
theorem lens_snoc {l : List (List UInt8)} {k : Nat} (h : k < l.length) : lens (l.take (k + 1)) = lens (l.take k) + l[k].length := by
  unfold lens
  rw [List.take_succ_eq_append_getElem h, List.map_append, List.sum_append, List.map_singleton, List.sum_singleton]
theorem lens_take (l : List (List UInt8)) (k : Nat) : lens (l.take k) ≤ lens l := by
  have : lens l = lens (l.take k) + lens (l.drop k) := by
    unfold lens
    rw [← List.sum_append, ← List.map_append, List.take_append_drop]
  omega
theorem lens_all (l : List (List UInt8)) : lens l = l.flatten.length := by simp [lens, List.length_flatten]
set_option maxRecDepth 100000 in
set_option maxHeartbeats 2000000 in
theorem concat_ (A : Option Addr) (n c : Nat) (l : List (List UInt8)) (h : Bss w A n l) (hn : n ≤ 9223372036854775807) (hl : lens l ≤ 140737488351300) :
    Calls Try.prog 22 #[.slice A n c] w fun e w' => ∃ v, e = .returned v ∧ w'.ownsRow w.heap.size 5 1 v (lens l) (bvs l.flatten) ∧ Below w.heap.size w w' := by
  obtain ⟨i0, hi0, hz0, hz1, hz2⟩ := info_parts info_u8
  have Hz := Lib.hid hz2
  have Hl := Lib.hid h.1
  clear hz2
  go_enter Try.func22, Try.ntmps22
  go_wp2_with fail
  go_loopw [3, 11] (fun sv iv wr => ∃ (i s : Nat), i ≤ n ∧ iv = .int .i64 (i : Int) ∧ sv = .int .i64 (s : Int) ∧ Hid (s = lens (l.take i)) ∧ wr = w) (fun _ iv _ => n - (intOf iv).toNat)
  case atStart => exact ⟨0, 0, Nat.zero_le _, rfl, rfl, Lib.hid rfl, rfl⟩
  case round =>
    obtain ⟨i, s, hi, rfl, rfl, Hs, rfl⟩ := hrel
    by_cases hlt : i < n
    · have hil : (i : Int) < (n : Int) := by omega
      have hi0' : (0 : Int) ≤ (i : Int) := by omega
      obtain ⟨b, o, A', n', c', rfl, hc, h1, h2, h3⟩ := h.2 i (by have := Hl.out; omega)
      have hin : i < l.length := by have := Hl.out; omega
      have HS := Lib.hid (show s + n' = lens (l.take (i + 1)) by rw [lens_snoc hin, Hs.out, h3.len])
      have hsb : s + n' ≤ 140737488351300 := by have := lens_take l (i + 1); have := HS.out; omega
      have hw : IntKind.i64.wrap ((s : Int) + (n' : Int)) = ((s + n' : Nat) : Int) := by rw [IntKind.wrap_i64]; omega
      have hs0 : (0 : Int) ≤ ((s + n' : Nat) : Int) := by omega
      clear h h3 h1
      go_wp2
      go_roundw
      case rel => exact ⟨i + 1, s + n', by omega, by go_num, by go_num, HS, trivial⟩
      case measure => simp [intOf]; omega
    · have hin : i = n := by omega
      subst hin
      have hL := Lib.hid (List.take_of_length_le (l := l) (i := i) (by have := Hl.out; omega))
      rw [hL.out] at Hs
      obtain ⟨wo, rfl⟩ : ∃ wo : World, wo = wr := ⟨_, rfl⟩
      have hsb : s ≤ 140737488351300 := by have := Hs.out; omega
      go_wp2_with fail
      refine (grow_ _ s hsb).mono ?_
      rintro e w1 ⟨v1, rfl, hown1, hb1⟩
      have hs1 := hb1.size
      go_wp2_with fail
      go_loopw [6, 27] (fun vv iv wr => ∃ (j k : Nat), j ≤ i ∧ iv = .int .i64 (j : Int) ∧ k ≤ 140737488351300 ∧ Hid (k = lens (l.take j)) ∧ wr.ownsRow wo.heap.size 5 1 vv k (bvs (l.take j).flatten) ∧ Below wo.heap.size wo wr) (fun _ iv _ => i - (intOf iv).toNat)
      case atStart => exact ⟨0, 0, Nat.zero_le _, rfl, Nat.zero_le _, Lib.hid rfl, by simpa [bvs] using hown1, hb1⟩
      case round =>
        obtain ⟨j, k, hj, rfl, hk, Hk, hown, hb⟩ := hrel
        by_cases hlt2 : j < i
        · have hjl : (j : Int) < (i : Int) := by omega
          have hj0 : (0 : Int) ≤ (j : Int) := by omega
          have hjn : j < l.length := by have := Hl.out; omega
          obtain ⟨b, o, A', n', c', rfl, hc, g1, g2, g3⟩ := (h.below hb).2 j hjn
          have HS := Lib.hid (show k + n' = lens (l.take (j + 1)) by rw [lens_snoc hjn, Hk.out, g3.len])
          have HF := Lib.hid (show (l.take (j + 1)).flatten = (l.take j).flatten ++ l[j] by rw [List.take_succ_eq_append_getElem hjn, List.flatten_append, List.flatten_singleton])
          have hsb2 : k + n' ≤ 140737488351300 := by have := lens_take l (j + 1); have := HS.out; omega
          have hgA : A' = none → n' = 0 := g3.zero
          have hsz := hb.size
          clear h hown1
          go_wp2_with (first
            | (at_builtin
               refine wpList_app _ rfl (.tmp 31) (.tmp 32) _ rfl wo.heap.size 5 i0 (.int .u8 0) 1 1 Try.underlying23 hi0 hz0 hz1 Hz.out rfl Nat.one_pos _ k _ rfl hown A' n' c' (bvs l[j]) rfl hgA g3 (bvs_one _) (by unfold maxLen; omega) (by omega) (by omega) ?_
               intro v3 w3 hown3 hg3 hat3
               rw [← bvs_append, ← HF.out] at hown3
               have hB3 : Below wo.heap.size wo w3 := hb.grown hg3 (by omega) (fun k hk => (hown.lt k hk).1)
               clear hg3 hat3 hown))
          go_roundw
          case rel => exact ⟨j + 1, k + n', by omega, by go_num, hsb2, HS, hown3, hB3⟩
          case measure => simp [intOf]; omega
        · have hji : j = i := by omega
          subst hji
          rw [hL.out] at hown Hk
          go_wp2
          go_ret
          exact ⟨_, rfl, by rw [← Hk.out]; exact hown, hb⟩
end
end Str
end Go.Proofs.Ytofoecpnphoohaa
