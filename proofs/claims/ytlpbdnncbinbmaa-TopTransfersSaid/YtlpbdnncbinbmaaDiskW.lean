/- Package disk's Write and Read. -/
import Derived.Test.YtlpbdnncbinbmaaDiskN
import Derived.StillTailTactics
namespace Go.Proofs.Ytlpbdnncbinbmaa
open Go.RowKit Go.Maps

theorem pad_eq {xs : List UInt8} {n : Nat} (hn : n = xs.length) : bvs xs ++ (bvs zeros).drop n = bvs (pad xs) := by
  subst hn
  have h : (bvs zeros).drop xs.length = bvs (List.replicate (64 - xs.length) 0) := by
    unfold bvs zeros
    rw [List.map_replicate, List.drop_replicate, List.map_replicate]
  rw [h, ← bvs_append]
  rfl
theorem size_u8 : (Try.prog.info? 5).map (·.size) = some 1 := by kernel_rfl
theorem size_sector : (Try.prog.info? 87).map (·.size) = some 64 := by kernel_rfl
theorem sector_one (xs : List UInt8) : (bvs xs).toArray.all (·.oneCell') = true := all_oneCell_toArray fun v hv => by
  obtain ⟨c, _, rfl⟩ := List.mem_map.1 hv
  rfl

set_option maxRecDepth 100000 in
set_option maxHeartbeats 1000000 in
theorem write_ok (g : Nat) (s : DS) (i : Nat) (A : Option Addr) (n c : Nat) (xs : List UInt8) (w : World) (h : Dk w g s) (hx : Bs w A n xs) (hA : A = none → n = 0 ∧ c = 0) (hnc : n ≤ c) (hi : i < s.n) (hn : n ≤ 64) (hX : ∀ a, A = some a → 0 < n → a.block < g ∨ g + 3 ≤ a.block) (ho : s.step.on = true) :
    Calls Try.prog 55 #[.pointer (some ⟨g + 2, 0, none⟩), .int .i64 (i : Int), .slice A n c] w fun e w' => e = .returned (.int .i64 0) ∧ Dk w' g { s.step with cache := put s.cache i (some (pad xs)) } ∧ Tn g (g + 3) w w' := by
  have Hd := Lib.hid (decide_eq_true (show s.has (i : Int) from ⟨by omega, by omega⟩))
  have Ho := Lib.hid ho
  clear ho
  go_enter Try.func55, Try.ntmps55
  go_wp2_with fail
  refine (made_ g s w h).mono ?_
  rintro e w' ⟨rfl, rfl⟩
  go_wp2_with fail
  refine (has_ g s w _ h).mono ?_
  rw [Hd.out]
  rintro e w' ⟨rfl, rfl⟩
  go_wp2_with fail
  refine (step_ g s w h).mono ?_
  rw [Ho.out]
  rintro e w1 ⟨rfl, h1, ht1⟩
  obtain ⟨iz, hiz, hiz0, _, _⟩ := info_parts info_sector
  go_wp2_with (first
    | (refine wpList_alloc_blk _ rfl 87 rfl iz _ hiz hiz0 ?_
       intro w2 hk2 hb2 hs2
       have hx2 : Bs w2 A n xs := (ht1.bs hx fun a ha h0 => by have := hX a ha h0; omega).below hb2)
    | (refine wpList_copy_blk _ rfl _ _ 36 rfl w1.heap.size 87 _ hk2 5 Try.underlying36 size_u8 64 64 rfl A n c xs hx2 (fun e => (hA e).1) (by simpa using hn) rfl rfl ?_
       intro z w3 hk3 ht3)
    | fail)
  have hk : Blk w3 w1.heap.size 87 (bvs (pad xs)).toArray := by
    have := hk3
    rwa [show (Value.agg (bvs zeros).toArray).cells.toList = bvs zeros from rfl, pad_eq hx.len] at this
  have hpl : (pad xs).length = 64 := pad_length (by rw [← hx.len]; exact hn)
  have ht : Tn g (g + 3) w w3 := ((ht1.wide (by omega) (by omega)).trans (Tn.ofBelow hb2 (Nat.le_refl _))).new ht3 (by have := ht1.size; omega)
  have hl1 := h1.lt
  have h3 : Dk w3 g s.step := (h1.below hb2).tn ht3 (by omega)
  clear hk3 ht3 hk2 hb2 hs2 hx2 h1 ht1
  generalize w1.heap.size = q at *
  have c2 := h3.self.cell (j := 2) (u := .map (some (g + 1))) rfl
  obtain ⟨D, hD, hm⟩ := h3.cache
  have hu := Try.underlying87
  have hi64 : (Try.prog.info? 87).map (·.size) = some (bvs (pad xs)).length := by rw [size_sector, bvs_length, hpl]
  have hr : w3.rangeAt q 0 (bvs (pad xs)) := hk.range (o := 0) fun j v hv => by simpa using hv
  have hkey : keyOf Try.prog 3 (.int .i64 (i : Int)) = some (key i) := keyOf_int_mk Try.underlying3 (WalkArith.wf_i64 (by have := h3.most; rw [step_n] at this; omega))
  have hval : secE (.agg (bvs (pad xs)).toArray) = some (.lit (.string (pad xs)), []) := secE_mk hpl
  have hn63 : s.step.n < maxLen := by have := h3.most; unfold maxLen; omega
  go_wp2_with fail
  go_region_held3 (fun w' => w'.cell? ⟨g + 2, 2, none⟩ = some (.map (some (g + 1))) ∧ w'.rangeAt q 0 (bvs (pad xs)))
    (first | go_keep | exact ⟨c2, hr⟩ | exact ⟨(Tn.ofGrown hg4 (Nat.le_refl (g + 1)) (Nat.lt_succ_self (g + 1))).cell c2 (by simp), (Tn.ofGrown hg4 (Nat.le_refl (g + 1)) (Nat.lt_succ_self (g + 1))).range hr (by omega)⟩)
    (first
      | (refine upon_update _ 82 3 87 (int_keyed Try.underlying3) Try.underlying82 secE (g + 1) _ D hD.drew hn63 _ _ (key i) hkey _ [] hval ?_
         intro w4 hD4 hg4))
  have ht4 : Tn (g + 1) (g + 2) w3 w4 := (Tn.ofGrown hg4 (Nat.le_refl (g + 1)) (Nat.lt_succ_self (g + 1))).drew
  have hm4 := hm.put (i := i) (by rw [step_n]; exact hi) hpl
  go_wp2
  go_ret
  refine ⟨rfl, ⟨ht4.blk h3.self (by omega), h3.plate.tn ht4 (by omega), ⟨_, (ownsMap_fit hD4).mono ?_, by rw [step_cache] at hm4; exact hm4⟩, h3.most, h3.least, h3.fuse⟩, ht.trans (ht4.wide (by omega) (by omega))⟩
  rw [hm4.size]
  exact cnt_le _ _

set_option maxRecDepth 100000 in
theorem write_bad (g : Nat) (s : DS) (i : Int) (A : Option Addr) (n c : Nat) (w : World) (h : Dk w g s) (hb : ¬ s.has i ∨ 64 < n) :
    Calls Try.prog 55 #[.pointer (some ⟨g + 2, 0, none⟩), .int .i64 i, .slice A n c] w fun e w' => e = .returned (.int .i64 1) ∧ w = w' := by
  by_cases hh : s.has i
  · have hn : 64 < n := hb.resolve_left (fun h => h hh)
    have Hd := Lib.hid (decide_eq_true hh)
    have hn' : (64 : Int) < (n : Int) := by omega
    clear hh hb
    go_enter Try.func55, Try.ntmps55
    go_wp2_with fail
    refine (made_ g s w h).mono ?_
    rintro e w' ⟨rfl, rfl⟩
    go_wp2_with fail
    refine (has_ g s w _ h).mono ?_
    rw [Hd.out]
    rintro e w' ⟨rfl, rfl⟩
    go_wp2
    go_ret
    exact ⟨rfl, rfl⟩
  · have Hd := Lib.hid (decide_eq_false hh)
    clear hh hb
    go_enter Try.func55, Try.ntmps55
    go_wp2_with fail
    refine (made_ g s w h).mono ?_
    rintro e w' ⟨rfl, rfl⟩
    go_wp2_with fail
    refine (has_ g s w _ h).mono ?_
    rw [Hd.out]
    rintro e w' ⟨rfl, rfl⟩
    go_wp2
    go_ret
    exact ⟨rfl, rfl⟩

set_option maxRecDepth 100000 in
theorem write_down (g : Nat) (s : DS) (i : Int) (A : Option Addr) (n c : Nat) (w : World) (h : Dk w g s) (hh : s.has i) (hn : n ≤ 64) (ho : s.step.on = false) :
    Calls Try.prog 55 #[.pointer (some ⟨g + 2, 0, none⟩), .int .i64 i, .slice A n c] w fun e w' => e = .returned (.int .i64 8) ∧ Dk w' g s.step ∧ Tn g (g + 3) w w' := by
  have Hd := Lib.hid (decide_eq_true hh)
  have Ho := Lib.hid ho
  have hn' : (n : Int) ≤ 64 := by omega
  clear hh ho
  go_enter Try.func55, Try.ntmps55
  go_wp2_with fail
  refine (made_ g s w h).mono ?_
  rintro e w' ⟨rfl, rfl⟩
  go_wp2_with fail
  refine (has_ g s w _ h).mono ?_
  rw [Hd.out]
  rintro e w' ⟨rfl, rfl⟩
  go_wp2_with fail
  refine (step_ g s w h).mono ?_
  rw [Ho.out]
  rintro e w1 ⟨rfl, h1, ht1⟩
  go_wp2
  go_ret
  exact ⟨rfl, h1, ht1.wide (by omega) (by omega)⟩

/-- Write. -/
theorem write_ (g : Nat) (s : DS) (i : Int) (A : Option Addr) (n c : Nat) (xs : List UInt8) (w : World) (h : Dk w g s) (hx : Bs w A n xs) (hA : A = none → n = 0 ∧ c = 0) (hnc : n ≤ c) (hX : ∀ a, A = some a → 0 < n → a.block < g ∨ g + 3 ≤ a.block) :
    Calls Try.prog 55 #[.pointer (some ⟨g + 2, 0, none⟩), .int .i64 i, .slice A n c] w fun e w' => e = .returned (.int .i64 ((s.write i xs).1 : Int)) ∧ Dk w' g (s.write i xs).2 ∧ Tn g (g + 3) w w' := by
  have hn := hx.len
  unfold DS.write
  by_cases hb : ¬ s.has i ∨ 64 < xs.length
  · rw [if_pos hb]
    refine (write_bad g s i A n c w h (by rw [hn]; exact hb)).mono ?_
    rintro e w' ⟨rfl, rfl⟩
    exact ⟨rfl, h, Tn.refl _ _ _⟩
  · rw [if_neg hb]
    have hh : s.has i := Classical.byContradiction fun h => hb (.inl h)
    have h64 : n ≤ 64 := by rw [hn]; exact Nat.le_of_not_lt fun h => hb (.inr h)
    cases ho : s.step.on with
    | true =>
      rw [if_pos rfl]
      obtain ⟨k, rfl⟩ := Int.eq_ofNat_of_zero_le hh.1
      exact write_ok g s k A n c xs w h hx hA hnc (by have := hh.2; omega) h64 hX ho
    | false =>
      rw [if_neg (by simp)]
      exact write_down g s i A n c w h hh h64 ho
end Go.Proofs.Ytlpbdnncbinbmaa
