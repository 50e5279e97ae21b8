/- Layer 14: slices.Grow of nothing, slices.Concat of numbers; which data fit parts; plan's Join. -/
import Derived.Test.YtdcggnfplfgcnaaPlaK
import Derived.Test.YtdcggnfplfgcnaaZeros
set_option linter.all false
namespace Go.Proofs.Ytdcggnfplfgcnaa
open Go.RowKit
namespace Pla
open Blo (I64 Dat Sml FitB Opl dat_own ns_get cons_eq cons_ne drop_of GotN AnsN)
open Sma (Pc Mp Mr mv runB run_mem wpList_grow_nil)

/-- The slice value '.slice A n _' reads as slices of numbers. -/
def Nss (w : World) (A : Option Addr) (n : Nat) (ls : List (List Nat)) : Prop :=
  n = ls.length ∧ ∀ (i : Nat) (h : i < ls.length), ∃ b o A' n' c', A = some ⟨b, o, none⟩ ∧ w.cell? ⟨b, o + i, none⟩ = some (.slice A' n' c') ∧ n' ≤ c' ∧ c' ≤ 9223372036854775807 ∧ Ns w A' n' ls[i]
theorem Nss.below {w w' : World} {A : Option Addr} {n : Nat} {ls : List (List Nat)} (h : Nss w A n ls) (hb : Below w.heap.size w w') : Nss w' A n ls :=
  ⟨h.1, fun i hi => by
    obtain ⟨b, o, A', n', c', e, hc, h1, h2, h3⟩ := h.2 i hi
    exact ⟨b, o, A', n', c', e, (hb.cell (cell_lt hc)).trans hc, h1, h2, h3.below hb⟩⟩
theorem Nss.at_ {w : World} {A : Option Addr} {n : Nat} {ls : List (List Nat)} (h : Nss w A n ls) {i : Nat} (hi : i < n) : ∃ b o A' n' c' l, A = some ⟨b, o, none⟩ ∧ ls[i]? = some l ∧ w.cell? ⟨b, o + i, none⟩ = some (.slice A' n' c') ∧ n' ≤ c' ∧ c' ≤ 9223372036854775807 ∧ Ns w A' n' l := by
  have hl : i < ls.length := by have := h.1; omega
  obtain ⟨b, o, A', n', c', e, r⟩ := h.2 i hl
  exact ⟨b, o, A', n', c', ls[i], e, List.getElem?_eq_getElem hl, r⟩
def lens (l : List (List Nat)) : Nat := (l.map List.length).sum
theorem lens_snoc {l : List (List Nat)} {k : Nat} (h : k < l.length) : lens (l.take (k + 1)) = lens (l.take k) + l[k].length := by
  unfold lens
  rw [List.take_succ_eq_append_getElem h, List.map_append, List.sum_append, List.map_singleton, List.sum_singleton]
theorem lens_take (l : List (List Nat)) (k : Nat) : lens (l.take k) ≤ lens l := by
  have : lens l = lens (l.take k) + lens (l.drop k) := by
    unfold lens
    rw [← List.sum_append, ← List.map_append, List.take_append_drop]
  omega
theorem nvs_nil : nvs [] = [] := rfl
section
variable (w : World)
set_option maxRecDepth 100000 in
set_option maxHeartbeats 1000000 in
theorem grow_ (n : Nat) (h0 : 0 < n) (hn : n ≤ 1000000) :
    Calls Try.prog 63 #[.slice none 0 0, .int .i64 (n : Int)] w fun e w' => ∃ v, e = .returned v ∧ w'.ownsRow w.heap.size 64 1 v 0 [] ∧ Below w.heap.size w w' := by
  obtain ⟨i0, hi0, hz0, hz1, hz2⟩ := u64_info
  have Hz := Lib.hid hz2
  clear hz2
  have hp : (0 : Int) ≤ (n : Int) := by omega
  have hp' : (0 : Int) < (n : Int) := by omega
  go_enter Try.func63, Try.ntmps63
  go_wp2_with (first
    | (at_builtin
       refine wpList_grow_nil _ rfl (.tmp 20) (.tmp 21) _ _ rfl 64 i0 (.int .u64 0) .i64 .i64 Try.underlying25 Try.underlying3 hi0 hz0 1 hz1 (by omega) rfl rfl (n : Int) n rfl rfl h0 (by omega) (by rw [Hz.out]; omega) ?_
       intro cap w2 hown2 hc2 hm2 hb2
       unfold maxLen at hm2))
  go_ret
  exact ⟨_, rfl, hown2, hb2⟩
set_option maxRecDepth 100000 in
set_option maxHeartbeats 2000000 in
theorem concat_ (A : Option Addr) (n c : Nat) (l : List (List Nat)) (h : Nss w A n l) (hn : n ≤ 9223372036854775807) (hl : lens l ≤ 1000000) (hl0 : 0 < lens l) :
    Calls Try.prog 48 #[.slice A n c] w fun e w' => ∃ v, e = .returned v ∧ w'.ownsRow w.heap.size 64 1 v (lens l) (nvs l.flatten) ∧ Below w.heap.size w w' := by
  obtain ⟨i0, hi0, hz0, hz1, hz2⟩ := u64_info
  have Hz := Lib.hid hz2
  have Hl := Lib.hid h.1
  clear hz2
  go_enter Try.func48, Try.ntmps48
  go_wp2_with fail
  go_loopw [3, 11] (fun sv iv wr => ∃ (i s : Nat), i ≤ n ∧ iv = .int .i64 (i : Int) ∧ sv = .int .i64 (s : Int) ∧ Hid (s = lens (l.take i)) ∧ wr = w) (fun _ iv _ => n - (intOf iv).toNat)
  case atStart => exact ⟨0, 0, Nat.zero_le _, rfl, rfl, Lib.hid rfl, rfl⟩
  case round =>
    obtain ⟨i, s, hi, rfl, rfl, Hs, rfl⟩ := hrel
    by_cases hlt : i < n
    · have hil : (i : Int) < (n : Int) := by omega
      have hi0' : (0 : Int) ≤ (i : Int) := by omega
      obtain ⟨b, o, A', n', c', rfl, hc, h1, h2, h3⟩ := h.2 i (by have := Hl.out; omega)
      have hin : i < l.length := by have := Hl.out; omega
      have HS := Lib.hid (show s + n' = lens (l.take (i + 1)) by rw [lens_snoc hin, Hs.out, h3.len])
      have hsb : s + n' ≤ 1000000 := by have := lens_take l (i + 1); have := HS.out; omega
      have hw : IntKind.i64.wrap ((s : Int) + (n' : Int)) = ((s + n' : Nat) : Int) := by rw [IntKind.wrap_i64]; omega
      have hs0 : (0 : Int) ≤ ((s + n' : Nat) : Int) := by omega
      clear h h3 h1
      go_wp2
      go_roundw
      case rel => exact ⟨i + 1, s + n', by omega, by go_num, by go_num, HS, trivial⟩
      case measure => simp [intOf]; omega
    · have hin : i = n := by omega
      subst hin
      have hL := Lib.hid (List.take_of_length_le (l := l) (i := i) (by have := Hl.out; omega))
      rw [hL.out] at Hs
      obtain ⟨wo, rfl⟩ : ∃ wo : World, wo = wr := ⟨_, rfl⟩
      have hsb : s ≤ 1000000 := by have := Hs.out; omega
      have hs00 : 0 < s := by have := Hs.out; omega
      go_wp2_with fail
      refine (grow_ _ s hs00 hsb).mono ?_
      rintro e w1 ⟨v1, rfl, hown1, hb1⟩
      have hs1 := hb1.size
      go_wp2_with fail
      go_loopw [6, 27] (fun vv iv wr => ∃ (j k : Nat), j ≤ i ∧ iv = .int .i64 (j : Int) ∧ k ≤ 1000000 ∧ Hid (k = lens (l.take j)) ∧ wr.ownsRow wo.heap.size 64 1 vv k (nvs (l.take j).flatten) ∧ Below wo.heap.size wo wr) (fun _ iv _ => i - (intOf iv).toNat)
      case atStart => exact ⟨0, 0, Nat.zero_le _, rfl, Nat.zero_le _, Lib.hid rfl, by simpa [nvs_nil] using hown1, hb1⟩
      case round =>
        obtain ⟨j, k, hj, rfl, hk, Hk, hown, hb⟩ := hrel
        by_cases hlt2 : j < i
        · have hjl : (j : Int) < (i : Int) := by omega
          have hj0 : (0 : Int) ≤ (j : Int) := by omega
          have hjn : j < l.length := by have := Hl.out; omega
          obtain ⟨b, o, A', n', c', rfl, hc, g1, g2, g3⟩ := (h.below hb).2 j hjn
          have HS := Lib.hid (show k + n' = lens (l.take (j + 1)) by rw [lens_snoc hjn, Hk.out, g3.len])
          have HF := Lib.hid (show (l.take (j + 1)).flatten = (l.take j).flatten ++ l[j] by rw [List.take_succ_eq_append_getElem hjn, List.flatten_append, List.flatten_singleton])
          have hsb2 : k + n' ≤ 1000000 := by have := lens_take l (j + 1); have := HS.out; omega
          have hgA : A' = none → n' = 0 := g3.zero
          have hsz := hb.size
          clear h hown1
          go_wp2_with (first
            | (at_builtin
               refine wpList_app _ rfl (.tmp 31) (.tmp 32) _ rfl wo.heap.size 64 i0 _ 1 8 Try.underlying25 hi0 hz0 hz1 Hz.out rfl (by omega) _ k _ rfl hown A' n' c' (nvs l[j]) rfl hgA g3.1 (nvs_one _) (by unfold maxLen; omega) (by omega) (by omega) ?_
               intro v3 w3 hown3 hg3 hat3
               rw [← nvs_app, ← HF.out] at hown3
               have hB3 : Below wo.heap.size wo w3 := hb.grown hg3 (by omega) (fun k hk => (hown.lt k hk).1)
               clear hg3 hat3 hown))
          go_roundw
          case rel => exact ⟨j + 1, k + n', by omega, by go_num, hsb2, HS, hown3, hB3⟩
          case measure => simp [intOf]; omega
        · have hji : j = i := by omega
          subst hji
          rw [hL.out] at hown Hk
          go_wp2
          go_ret
          exact ⟨_, rfl, by rw [← Hk.out]; exact hown, hb⟩
end
end Pla
end Go.Proofs.Ytdcggnfplfgcnaa
