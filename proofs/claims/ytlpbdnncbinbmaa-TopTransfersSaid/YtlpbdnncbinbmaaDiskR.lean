/- Package disk's Read. -/
import Derived.Test.YtlpbdnncbinbmaaDiskW
namespace Go.Proofs.Ytlpbdnncbinbmaa
open Go.RowKit Go.Maps

theorem zero_sector (w : World) : (zeroValue 87).run Try.prog w = .ok (.agg (bvs zeros).toArray) w := by
  obtain ⟨i, hi, hz, _⟩ := info_parts info_sector
  simp [zeroValue, typeInfo, hi, hz]

/-- What is read: new bytes, that may be written. -/
def Got (w w' : World) (v : Value) (xs : List UInt8) : Prop :=
  (xs = [] ∧ v = .slice none 0 0) ∨ ∃ q, v = .slice (some ⟨q, 0, none⟩) 64 64 ∧ xs.length = 64 ∧ w.heap.size ≤ q ∧ Blk w' q 87 (bvs xs).toArray

set_option maxRecDepth 100000 in
theorem read_bad (g : Nat) (s : DS) (i : Int) (w : World) (h : Dk w g s) (hh : ¬ s.has i) :
    Calls Try.prog 43 #[.pointer (some ⟨g + 2, 0, none⟩), .int .i64 i] w fun e w' => e = .returned (.tuple #[.slice none 0 0, .int .i64 1]) ∧ w = w' := by
  have Hd := Lib.hid (decide_eq_false hh)
  clear hh
  go_enter Try.func43, Try.ntmps43
  go_wp2_with fail
  refine (made_ g s w h).mono ?_
  rintro e w' ⟨rfl, rfl⟩
  go_wp2_with fail
  refine (has_ g s w _ h).mono ?_
  rw [Hd.out]
  rintro e w' ⟨rfl, rfl⟩
  go_wp2
  go_ret2
  exact ⟨rfl, rfl⟩
set_option maxRecDepth 100000 in
theorem read_off (g : Nat) (s : DS) (i : Int) (w : World) (h : Dk w g s) (hh : s.has i) (ho : s.on = false) :
    Calls Try.prog 43 #[.pointer (some ⟨g + 2, 0, none⟩), .int .i64 i] w fun e w' => e = .returned (.tuple #[.slice none 0 0, .int .i64 8]) ∧ w = w' := by
  have Hd := Lib.hid (decide_eq_true hh)
  have c3 := h.self.cell (j := 3) (u := .bool s.on) rfl
  rw [ho] at c3
  clear hh ho
  go_enter Try.func43, Try.ntmps43
  go_wp2_with fail
  refine (made_ g s w h).mono ?_
  rintro e w' ⟨rfl, rfl⟩
  go_wp2_with fail
  refine (has_ g s w _ h).mono ?_
  rw [Hd.out]
  rintro e w' ⟨rfl, rfl⟩
  go_wp2
  go_ret2
  exact ⟨rfl, rfl⟩
set_option maxRecDepth 100000 in
set_option maxHeartbeats 1000000 in
theorem read_ok (g : Nat) (s : DS) (i : Nat) (w : World) (h : Dk w g s) (hi : i < s.n) (ho : s.on = true) :
    Calls Try.prog 43 #[.pointer (some ⟨g + 2, 0, none⟩), .int .i64 (i : Int)] w fun e w' => ∃ q, e = .returned (.tuple #[.slice (some ⟨q, 0, none⟩) 64 64, .int .i64 0]) ∧ w.heap.size = q ∧ (s.look i).length = 64 ∧ Blk w' q 87 (bvs (s.look i)).toArray ∧ Below w.heap.size w w' := by
  have Hd := Lib.hid (decide_eq_true (show s.has (i : Int) from ⟨by omega, by omega⟩))
  have c1 := h.self.cell (j := 1) (u := .slice (some ⟨g, 0, none⟩) s.n s.n) rfl
  have c2 := h.self.cell (j := 2) (u := .map (some (g + 1))) rfl
  have c3 := h.self.cell (j := 3) (u := .bool s.on) rfl
  have hgl := h.lt
  rw [ho] at c3
  obtain ⟨D, hD, hm⟩ := h.cache
  have hhas := hm.has i hi
  have hkey : keyOf Try.prog 3 (.int .i64 (i : Int)) = some (key i) := keyOf_int_mk Try.underlying3 (WalkArith.wf_i64 (by have := h.most; omega))
  obtain ⟨iz, hiz, hiz0, _, _⟩ := info_parts info_sector
  have hz := zero_sector w
  cases hc : s.cache i with
  | some xs =>
    obtain ⟨hx, hat⟩ := hm.at_ i hi xs hc
    rw [hc] at hhas
    have Hl := Lib.hid (show s.look i = xs by simp [DS.look, hc])
    clear hc hm
    go_enter Try.func43, Try.ntmps43
    go_wp2_with fail
    refine (made_ g s w h).mono ?_
    rintro e w' ⟨rfl, rfl⟩
    go_wp2_with fail
    refine (has_ g s w _ h).mono ?_
    rw [Hd.out]
    rintro e w' ⟨rfl, rfl⟩
    go_wp2_with (first
      | (at_lookup
         refine wpList_lookup_own_ok _ rfl _ _ 82 rfl 3 87 (int_keyed Try.underlying3) Try.underlying82 secE hz (.lit (.string zeros)) [] (secE_mk rfl) (g + 1) _ D rfl hD _ (key i) rfl hkey ?_
         intro v ps hv
         rw [hat] at hv
         obtain ⟨ys, hy, rfl, hys⟩ := secE_inv hv
         simp only [Prod.mk.injEq, DataW.lit.injEq, Lit.string.injEq] at hys
         obtain ⟨rfl, _⟩ := hys
         rw [hhas])
      | (refine wpList_alloc_blk _ rfl 87 rfl iz _ hiz hiz0 ?_
         intro w2 hk2 hb2 hs2)
      | (refine wpList_store_blk _ rfl 87 _ _ rfl w.heap.size 87 _ _ hk2 rfl rfl (by rw [List.size_toArray, bvs_length, hx]; rfl) (by rw [size_sector, List.size_toArray, bvs_length, hx]) (sector_one _) ?_
         intro w3 hk3 ht3)
      | fail)
    go_ret2
    rw [Hl.out]
    exact ⟨_, rfl, rfl, hx, hk3, hb2.trans (ht3.below (Nat.le_refl _) hb2.size)⟩
  | none =>
    obtain ⟨hpl, hr, _⟩ := h.plate i hi
    rw [hc] at hhas
    have hat := Maps.atKey_of_not_has (D := D) (k := key i) hhas
    have Hl := Lib.hid (show s.look i = s.plate i by simp [DS.look, hc])
    have hin : (i : Int) < (s.n : Int) := by omega
    have hi0 : 0 ≤ (i : Int) := by omega
    clear hc hm
    generalize s.plate i = xs at *
    go_enter Try.func43, Try.ntmps43
    go_wp2_with fail
    refine (made_ g s w h).mono ?_
    rintro e w' ⟨rfl, rfl⟩
    go_wp2_with fail
    refine (has_ g s w _ h).mono ?_
    rw [Hd.out]
    rintro e w' ⟨rfl, rfl⟩
    go_wp2_with (first
      | (at_lookup
         refine wpList_lookup_own_ok _ rfl _ _ 82 rfl 3 87 (int_keyed Try.underlying3) Try.underlying82 secE hz (.lit (.string zeros)) [] (secE_mk rfl) (g + 1) _ D rfl hD _ (key i) rfl hkey ?_
         intro v ps hv
         rw [hat] at hv
         obtain ⟨ys, hy, rfl, hys⟩ := secE_inv hv
         simp only [Prod.mk.injEq, DataW.lit.injEq, Lit.string.injEq] at hys
         rw [← hys.1]
         clear hys hv
         rw [hhas])
      | (refine wpList_alloc_blk _ rfl 87 rfl iz _ hiz hiz0 ?_
         intro w2 hk2 hb2 hs2)
      | (refine wpList_store_blk _ rfl 87 _ _ rfl w.heap.size 87 _ _ hk2 rfl rfl rfl (by rw [size_sector, List.size_toArray, bvs_length]; rfl) (sector_one _) ?_
         intro w3 hk3 ht3
         have hb3 : Below w.heap.size w w3 := hb2.trans (ht3.below (Nat.le_refl _) hb2.size)
         have c1' : w3.cell? ⟨g + 2, 1, none⟩ = _ := (hb3.cell (show (⟨g + 2, 1, none⟩ : Addr).block < w.heap.size by simpa using hgl)).trans c1)
      | (refine wpList_load_mid rfl 87 _ rfl g (i * 64) rfl (bvs xs) _ ((Tn.ofBelow (lo := 0) (hi := 0) hb3 (Nat.le_refl _)).range hr (by omega)) Try.underlying87 rfl (by rw [size_sector, bvs_length, hpl]) ?_)
      | (refine wpList_store_blk _ rfl 87 _ _ rfl w.heap.size 87 _ _ hk3 rfl rfl (by rw [List.size_toArray, List.size_toArray, bvs_length, bvs_length, hpl]; rfl) (by rw [size_sector, List.size_toArray, bvs_length, hpl]) (sector_one _) ?_
         intro w4 hk4 ht4)
      | fail)
    go_ret2
    rw [Hl.out]
    exact ⟨_, rfl, rfl, hpl, hk4, hb3.trans (ht4.below (Nat.le_refl _) hb3.size)⟩

/-- Read. -/
theorem read_ (g : Nat) (s : DS) (i : Int) (w : World) (h : Dk w g s) :
    Calls Try.prog 43 #[.pointer (some ⟨g + 2, 0, none⟩), .int .i64 i] w fun e w' => ∃ v, e = .returned (.tuple #[v, .int .i64 ((s.read i).2 : Int)]) ∧ Got w w' v (s.read i).1 ∧ ((s.read i).2 = 0 → (s.read i).1.length = 64) ∧ Below w.heap.size w w' := by
  unfold DS.read
  by_cases hh : s.has i
  · rw [if_neg (fun h => h hh)]
    cases ho : s.on with
    | true =>
      rw [if_pos rfl]
      obtain ⟨k, rfl⟩ := Int.eq_ofNat_of_zero_le hh.1
      refine (read_ok g s k w h (by have := hh.2; omega) ho).mono ?_
      rintro e w' ⟨q, rfl, hq, hl, hb, hB⟩
      exact ⟨_, rfl, .inr ⟨q, rfl, hl, Nat.le_of_eq hq, hb⟩, fun _ => hl, hB⟩
    | false =>
      rw [if_neg (by simp)]
      refine (read_off g s i w h hh ho).mono ?_
      rintro e w' ⟨rfl, rfl⟩
      exact ⟨_, rfl, .inl ⟨rfl, rfl⟩, fun h => by simp at h, Below.refl _ _⟩
  · rw [if_pos hh]
    refine (read_bad g s i w h hh).mono ?_
    rintro e w' ⟨rfl, rfl⟩
    exact ⟨_, rfl, .inl ⟨rfl, rfl⟩, fun h => by simp at h, Below.refl _ _⟩
end Go.Proofs.Ytlpbdnncbinbmaa
