/- Walks of tail, Equal, Clone, Seal, Open and of their twins in the document's answers. -/
import Derived.Test.YtallbhdfbkkjkaaSumWa
import Derived.Test.YtallbhdfbkkjkaaClone
import Derived.Test.YtallbhdfbkkjkaaSame
set_option linter.all false
namespace Go.Proofs.Ytallbhdfbkkjkaa
open Go.RowKit

set_option maxRecDepth 100000 in
set_option maxHeartbeats 400000 in
theorem tail_ (s : Nat) (hs : s < 4294967296) (w : World) :
    Calls Try.prog 54 #[.int .u32 (s : Int)] w fun e w' => e = .returned (.slice (some ⟨w.heap.size, 0, none⟩) 4 4) ∧ w' = w.alloc (.cells (bvs (sumBytes s)).toArray 5) := by
  have h1 : ((UInt8.ofNat (s / 16777216)).toNat : Int) = (s : Int) / 16777216 := by rw [UInt8.toNat_ofNat']; omega
  have h2 : ((UInt8.ofNat (s / 65536)).toNat : Int) = (s : Int) / 65536 % 256 := by rw [UInt8.toNat_ofNat']; omega
  have h3 : ((UInt8.ofNat (s / 256)).toNat : Int) = (s : Int) / 256 % 256 := by rw [UInt8.toNat_ofNat']; omega
  have h4 : ((UInt8.ofNat s).toNat : Int) = (s : Int) % 256 := by rw [UInt8.toNat_ofNat']; omega
  have H0 : ((bvs (sumBytes s)).toArray = #[Value.int .u8 ((s : Int) / 16777216), Value.int .u8 ((s : Int) / 65536 % 256), Value.int .u8 ((s : Int) / 256 % 256), Value.int .u8 ((s : Int) % 256)]) := by
    simp only [bvs, sumBytes, List.map_cons, List.map_nil, bv, h1, h2, h3, h4]
  have H := Lib.hid H0
  clear h1 h2 h3 h4 H0
  go_enter Try.func54, Try.ntmps54
  go_wp2
  go_ret
  rw [H.out]
  exact ⟨rfl, rfl⟩

set_option maxRecDepth 100000 in
set_option maxHeartbeats 400000 in
theorem seal_ (A : Option Addr) (n c : Nat) (xs : List UInt8) (w : World) (hr : Bs w A n xs) (hA : A = none → n = 0) (hnc : n ≤ c) (hc : c ≤ 9223372036854775807) (hnb : n ≤ 140737488351300) :
    Calls Try.prog 30 #[.slice A n c] w fun e w' => ∃ v, e = .returned v ∧ w'.ownsRow w.heap.size 5 1 v (n + 4) (bvs (xs ++ sumBytes (adOf [xs]))) ∧ Below w.heap.size w w' := by
  obtain ⟨i0, hi0, hz0, hz1, hz2⟩ := info_parts info_u8
  have Hz := Lib.hid hz2
  clear hz2
  go_enter Try.func30, Try.ntmps30
  go_wp2_with (first
    | (refine wpList_make_own _ rfl _ _ 22 rfl w.heap.size 5 i0 _ 1 Try.underlying22 hi0 hz0 hz1 .i64 .i64 _ (n+4) rfl rfl (by omega) (by rw [Hz.out]; omega) (by unfold maxLen; omega) (Nat.le_refl _) ?_
       intro w1 hown1 hg1
       have hb1 : Below w.heap.size w w1 := (Below.refl _ _).grown hg1 (Nat.le_refl _) (by simp))
    | (at_builtin
       refine wpList_app _ rfl (.tmp 8) (.tmp 9) _ rfl w.heap.size 5 i0 (.int .u8 0) 1 1 Try.underlying22 hi0 hz0 hz1 Hz.out rfl Nat.one_pos (.slice (some ⟨w.heap.size, 0, none⟩) 0 (n + 4)) 0 [] rfl hown1 A n c (bvs xs) rfl hA (hr.below hb1) (bvs_one xs) (by unfold maxLen; omega) (by omega) hb1.size ?_
       intro v2 w2 hown2 hg2 hat2
       have hb2 : Below w.heap.size w w2 := hb1.grown hg2 hb1.size (fun k hk => by simp [Value.ownBlock] at hk; omega)
       simp only [Nat.zero_add, List.nil_append] at hown2)
    | (refine (sumOf _ _ _ [xs] _ (Bss.of1 (hr.below hb2) hnc (by omega) 22) (by omega)).mono ?_
       rintro e w' ⟨rfl, rfl⟩)
    | (refine (tail_ _ (adOf_lt _) _).mono ?_
       rintro e w' ⟨rfl, rfl⟩
       obtain ⟨A2, c2, rfl, hc2, hm2, hA2⟩ := own_form hown2
       have hb3 := (hb2.alloc hb2.size (.cells #[.slice A n c] 22)).alloc (by simp only [World.size_alloc]; have := hb2.size; omega) (.cells (bvs (sumBytes (adOf [xs]))).toArray 5)
       have hown3 := (hown2.alloc (.cells #[.slice A n c] 22)).alloc (.cells (bvs (sumBytes (adOf [xs]))).toArray 5)
       have hnew := Bs.new (w2.alloc (.cells #[.slice A n c] 22)) (sumBytes (adOf [xs])) 5 (0, 0)
       simp only [World.size_alloc] at hnew
       generalize (w2.alloc (.cells #[.slice A n c] 22)).alloc (.cells (bvs (sumBytes (adOf [xs]))).toArray 5) = w3 at *)
    | (at_builtin
       refine wpList_app _ rfl (.tmp 11) (.tmp 15) _ rfl w.heap.size 5 i0 (.int .u8 0) 1 1 Try.underlying22 hi0 hz0 hz1 Hz.out rfl Nat.one_pos (.slice A2 n c2) n (bvs xs) rfl hown3 _ 4 4 (bvs (sumBytes (adOf [xs]))) rfl (by simp) hnew (bvs_one _) (by unfold maxLen; omega) (by omega) hb3.size ?_
       intro v4 w4 hown4 hg4 hat4
       have hb4 : Below w.heap.size w w4 := hb3.grown hg4 hb3.size (fun k hk => (hown3.lt k hk).1)
       rw [← bvs_append] at hown4))
  go_ret
  exact ⟨v4, rfl, hown4, hb4⟩

set_option maxRecDepth 100000 in
set_option maxHeartbeats 400000 in
theorem equal_ (A B : Option Addr) (n c m d : Nat) (xs ys : List UInt8) (w : World) (hx : Bs w A n xs) (hy : Bs w B m ys) (hA : A = none → n = 0) (hB : B = none → m = 0) :
    Calls Try.prog 45 #[.slice A n c, .slice B m d] w fun e w' => e = .returned (.bool (xs == ys)) ∧ w = w' := by
  have k1 := run_str hx hA 22 9 5 Try.underlying22 Try.underlying5 Try.underlying9 c
  have k2 := run_str hy hB 22 9 5 Try.underlying22 Try.underlying5 Try.underlying9 d
  go_enter Try.func45, Try.ntmps45
  go_wp2
  go_ret
  exact ⟨rfl, rfl⟩

set_option maxRecDepth 100000 in
set_option maxHeartbeats 4000000 in
theorem open_ (A : Option Addr) (n c : Nat) (xs : List UInt8) (w : World) (hr : Bs w A n xs) (hA : A = none → n = 0 ∧ c = 0) (hnc : n ≤ c) (hc : c ≤ 9223372036854775807) (hnb : n ≤ 140737488351300) :
    Calls Try.prog 36 #[.slice A n c] w fun e w' => ∃ v, e = .returned (.tuple #[v, .int .i64 (openE xs)]) ∧ w'.ownsRow w.heap.size 5 1 v (openL xs).length (bvs (openL xs)) ∧ Below w.heap.size w w' := by
  have Hl := Lib.hid hr.len
  by_cases h4 : n < 4
  · have hk := okSum_small xs (by rw [← Hl.out]; exact h4)
    have HL := Lib.hid (show openL xs = [] by unfold openL; rw [hk]; rfl)
    have HE := Lib.hid (show openE xs = 4 by unfold openE; rw [hk]; rfl)
    clear hk
    go_enter Try.func36, Try.ntmps36
    go_wp2
    go_ret2
    rw [HL.out, HE.out]
    exact ⟨_, rfl, own_nil _ _ _ _, Below.refl _ _⟩
  · obtain ⟨k, rfl⟩ : ∃ k, n = k + 4 := ⟨n - 4, by omega⟩
    obtain ⟨b, o, rfl, _⟩ := hr.at_ (k := 0) (by omega)
    go_enter Try.func36, Try.ntmps36
    go_wp2
    have hd := hr.drop (k := k) (cap := c) (by omega) hnc
    have ht := hr.take (k := k) (by omega)
    rw [if_neg (by omega)] at hd
    simp only [Option.map_some, add_plain, Nat.add_sub_cancel_left] at hd
    have hnew := Bs.new (w.alloc (.cells #[.slice (some ⟨b, o, none⟩) k c] 22)) (sumBytes (adOf [xs.take k])) 5 (0, 0)
    simp only [World.size_alloc] at hnew
    have hb0 := ((Below.refl w.heap.size w).alloc (Nat.le_refl _) (.cells #[.slice (some ⟨b, o, none⟩) k c] 22))
    have t1 : (k : Int) ≤ (k : Int) + 4 := by omega
    have t2 : k ≤ c := by omega
    have t3 : ¬ c = k := by omega
    go_region_with (first
      | (go_at_call 55
         refine (sumOf _ _ _ [xs.take k] _ (by exact Bss.of1 ht (show k ≤ c by omega) (by omega) 22) (by omega)).mono ?_
         rintro e w' ⟨rfl, rfl⟩)
      | (go_at_call 54
         refine (tail_ _ (adOf_lt _) _).mono ?_
         rintro e w' ⟨rfl, rfl⟩)
      | (go_at_call 45
         refine (equal_ _ _ _ _ _ _ (xs.drop k) (sumBytes (adOf [xs.take k])) _ (by exact (hd.alloc _).alloc _) (by exact hnew) (by simp) (by simp)).mono ?_
         rintro e w' ⟨rfl, rfl⟩))
    have hw0 : Below w.heap.size w ((w.alloc (.cells #[.slice (some ⟨b, o, none⟩) k c] 22)).alloc (.cells (bvs (sumBytes (adOf [xs.take k]))).toArray 5)).drew :=
      ((hb0.alloc (by simp) _)).drew
    have ht' : Bs ((w.alloc (.cells #[.slice (some ⟨b, o, none⟩) k c] 22)).alloc (.cells (bvs (sumBytes (adOf [xs.take k]))).toArray 5)).drew (some ⟨b, o, none⟩) k (xs.take k) := (ht.alloc _).alloc _
    generalize ((w.alloc (.cells #[.slice (some ⟨b, o, none⟩) k c] 22)).alloc (.cells (bvs (sumBytes (adOf [xs.take k]))).toArray 5)).drew = w1 at *
    have hok := okSum_at xs k Hl.out
    have HL := Lib.hid (show openL xs = if (xs.drop k == sumBytes (adOf [xs.take k])) = true then xs.take k else [] by
      unfold openL; rw [hok, show xs.length - 4 = k by rw [← Hl.out]; omega])
    have HE := Lib.hid (show openE xs = if (xs.drop k == sumBytes (adOf [xs.take k])) = true then 0 else 4 by
      unfold openE; rw [hok])
    clear hok hnew hb0 hd hr hA
    generalize (xs.drop k == sumBytes (adOf [xs.take k])) = q at *
    cases q with
    | false =>
      go_wp2
      go_ret2
      rw [HL.out, HE.out]
      exact ⟨_, rfl, own_nil _ _ _ _, hw0⟩
    | true =>
      have Hk := Lib.hid ht'.len
      go_wp2_with (refine (clone_ _ _ _ _ _ ht' (by simp) t2 hc (by omega)).mono ?_; rintro e w2 ⟨v, rfl, hown, hb2⟩)
      go_ret2
      rw [HL.out, HE.out]
      refine ⟨v, rfl, ?_, hw0.trans (hb2.mono hw0.size)⟩
      simp only [if_true]
      rw [← Hk.out]
      exact hown.mono hw0.size

set_option maxRecDepth 100000 in
set_option maxHeartbeats 400000 in
theorem refSeal (A : Option Addr) (n c : Nat) (xs : List UInt8) (w : World) (hr : Bs w A n xs) (hA : A = none → n = 0) (hnc : n ≤ c) (hc : c ≤ 9223372036854775807) (hnb : n ≤ 140737488351300) :
    Calls Try.prog 34 #[.slice A n c] w fun e w' => ∃ v, e = .returned v ∧ w'.ownsRow w.heap.size 5 1 v (n + 4) (bvs (xs ++ sumBytes (adOf [xs]))) ∧ Below w.heap.size w w' := by
  obtain ⟨i0, hi0, hz0, hz1, hz2⟩ := info_parts info_u8
  have Hz := Lib.hid hz2
  clear hz2
  have hs := adOf_lt [xs]
  have he := Lib.hid (show adMore 1 xs = adOf [xs] from rfl)
  have h1 : ((UInt8.ofNat (adOf [xs] / 16777216)).toNat : Int) = (adOf [xs] : Int) / 16777216 := by rw [UInt8.toNat_ofNat']; omega
  have h2 : ((UInt8.ofNat (adOf [xs] / 65536)).toNat : Int) = (adOf [xs] : Int) / 65536 % 256 := by rw [UInt8.toNat_ofNat']; omega
  have h3 : ((UInt8.ofNat (adOf [xs] / 256)).toNat : Int) = (adOf [xs] : Int) / 256 % 256 := by rw [UInt8.toNat_ofNat']; omega
  have h4 : ((UInt8.ofNat (adOf [xs])).toNat : Int) = (adOf [xs] : Int) % 256 := by rw [UInt8.toNat_ofNat']; omega
  have H0 : ((bvs (sumBytes (adOf [xs]))).toArray = #[Value.int .u8 ((adOf [xs] : Int) / 16777216), Value.int .u8 ((adOf [xs] : Int) / 65536 % 256), Value.int .u8 ((adOf [xs] : Int) / 256 % 256), Value.int .u8 ((adOf [xs] : Int) % 256)]) := by
    simp only [bvs, sumBytes, List.map_cons, List.map_nil, bv, h1, h2, h3, h4]
  have H := Lib.hid H0
  clear h1 h2 h3 h4 H0
  go_enter Try.func34, Try.ntmps34
  go_wp2_with (first
    | (go_at_call 56
       refine (refMore 1 (by omega) _ _ _ xs _ hr (by omega)).mono ?_
       rw [he.out]
       rintro e w' ⟨rfl, rfl⟩)
    | (at_builtin
       refine wpList_app _ rfl (.const (.slice none 0 0)) (.tmp 6) _ rfl w.heap.size 5 i0 (.int .u8 0) 1 1 Try.underlying22 hi0 hz0 hz1 Hz.out rfl Nat.one_pos (.slice none 0 0) 0 [] rfl (own_nil _ _ _ _) A n c (bvs xs) rfl hA hr (bvs_one xs) (by unfold maxLen; omega) (by omega) (Nat.le_refl _) ?_
       intro v2 w2 hown2 hg2 hat2
       have hb2 : Below w.heap.size w w2 := (Below.refl _ _).grown hg2 (Nat.le_refl _) (fun k hk => by simp [Value.ownBlock] at hk)
       simp only [Nat.zero_add, List.nil_append] at hown2
       obtain ⟨A2, c2, rfl, hc2, hm2, hA2⟩ := own_form hown2
       have hb3 := hb2.alloc hb2.size (.cells (bvs (sumBytes (adOf [xs]))).toArray 5)
       have hown3 := hown2.alloc (.cells (bvs (sumBytes (adOf [xs]))).toArray 5)
       have hnew := Bs.new w2 (sumBytes (adOf [xs])) 5 (0, 0)
       rw [H.out] at hb3 hown3 hnew)
    | (at_builtin
       refine wpList_app _ rfl (.tmp 7) (.tmp 19) _ rfl w.heap.size 5 i0 (.int .u8 0) 1 1 Try.underlying22 hi0 hz0 hz1 Hz.out rfl Nat.one_pos (.slice A2 n c2) n (bvs xs) rfl hown3 _ 4 4 (bvs (sumBytes (adOf [xs]))) rfl (by simp) hnew (bvs_one _) (by unfold maxLen; omega) (by omega) hb3.size ?_
       intro v4 w4 hown4 hg4 hat4
       have hb4 : Below w.heap.size w w4 := hb3.grown hg4 hb3.size (fun k hk => (hown3.lt k hk).1)
       rw [← bvs_append] at hown4))
  go_ret
  exact ⟨v4, rfl, hown4, hb4⟩

set_option maxRecDepth 100000 in
set_option maxHeartbeats 4000000 in
theorem refOpen (A : Option Addr) (n c : Nat) (xs : List UInt8) (w : World) (hr : Bs w A n xs) (hA : A = none → n = 0 ∧ c = 0) (hnc : n ≤ c) (hc : c ≤ 9223372036854775807) (hnb : n ≤ 140737488351300) :
    Calls Try.prog 41 #[.slice A n c] w fun e w' => ∃ v, e = .returned (.tuple #[v, .int .i64 (openE xs)]) ∧ w'.ownsRow w.heap.size 5 1 v (openL xs).length (bvs (openL xs)) ∧ Below w.heap.size w w' := by
  obtain ⟨i0, hi0, hz0, hz1, hz2⟩ := info_parts info_u8
  have Hz := Lib.hid hz2
  clear hz2
  have Hl := Lib.hid hr.len
  by_cases h4 : n < 4
  · have hk := okSum_small xs (by rw [← Hl.out]; exact h4)
    have HL := Lib.hid (show openL xs = [] by unfold openL; rw [hk]; rfl)
    have HE := Lib.hid (show openE xs = 4 by unfold openE; rw [hk]; rfl)
    have hd : decide ((n : Int) - 4 < 0) = true := by simp; omega
    clear hk
    go_enter Try.func41, Try.ntmps41
    go_wp2
    go_quiet (fail)
    go_wp2
    go_ret2
    rw [HL.out, HE.out]
    exact ⟨_, rfl, own_nil _ _ _ _, below_drewN (Below.refl _ _) _⟩
  · obtain ⟨k, rfl⟩ : ∃ k, n = k + 4 := ⟨n - 4, by omega⟩
    obtain ⟨b, o, rfl, _⟩ := hr.at_ (k := 0) (by omega)
    have hd : decide ((k : Int) < 0) = false := by simp
    have ht := hr.take (k := k) (by omega)
    have t1 : (k : Int) ≤ (k : Int) + 4 := by omega
    have t2 : k ≤ c := by omega
    have t3 : ¬ c = k := by omega
    have kx := fun (w' : World) (h : Bs w' (some ⟨b, o, none⟩) (k + 4) xs) => run_str (P := Try.prog) h (by simp) 22 9 5 Try.underlying22 Try.underlying5 Try.underlying9 c
    have q0 := kx w.drew hr.drew
    have Kx := Lib.hid kx
    clear kx
    go_enter Try.func41, Try.ntmps41
    go_wp2
    go_region_with (first
      | (go_at_call 34
         refine (refSeal _ _ _ (xs.take k) _ (by exact ht) (by simp) t2 hc (by omega)).mono ?_
         rintro e w' ⟨v, rfl, hown, hbb⟩
         obtain ⟨A2, c2, rfl, hc2, hm2, hA2⟩ := own_form hown
         have q1 := run_str (P := Try.prog) (bs_own hown) (fun h => (hA2 h).1) 22 9 5 Try.underlying22 Try.underlying5 Try.underlying9 c2
         have q2 := Kx.out w' (hr.drew.below hbb)))
    all_goals
      have hok := okSum_join xs k Hl.out
      have hw0 : Below w.heap.size w w' := (Below.refl _ _).drew.trans hbb
      have ht' := ht.below hw0
      generalize xs.take k ++ sumBytes (adOf [xs.take k]) = ys at *
      have HL := Lib.hid (show openL xs = if (ys == xs) = true then xs.take k else [] by
        unfold openL; rw [hok, show xs.length - 4 = k by rw [← Hl.out]; omega])
      have HE := Lib.hid (show openE xs = if (ys == xs) = true then 0 else 4 by
        unfold openE; rw [hok])
      have Hk := Lib.hid ht'.len
      clear hok q0 q1 q2 hd t1 t3 ht hr hA hbb hown hc2 hm2 hA2
      generalize (ys == xs) = q at *
      cases q with
      | true =>
        go_wp2_with (first
          | (at_builtin
             refine wpList_app _ rfl (.const (.slice none 0 0)) (.tmp 22) _ rfl w.heap.size 5 i0 (.int .u8 0) 1 1 Try.underlying22 hi0 hz0 hz1 Hz.out rfl Nat.one_pos (.slice none 0 0) 0 [] rfl (own_nil _ _ _ _) _ k c (bvs (xs.take k)) rfl (by simp) ht' (bvs_one _) (by unfold maxLen; omega) (by omega) hw0.size ?_
             intro v2 w2 hown2 hg2 hat2
             have hb2 : Below w.heap.size w w2 := hw0.grown hg2 hw0.size (fun k hk => by simp [Value.ownBlock] at hk)
             simp only [Nat.zero_add, List.nil_append] at hown2))
        go_ret2
        rw [HL.out, HE.out]
        refine ⟨v2, rfl, ?_, hb2⟩
        simp only [if_true]
        rw [← Hk.out]
        exact hown2
      | false =>
        go_wp2
        go_ret2
        rw [HL.out, HE.out]
        exact ⟨_, rfl, own_nil _ _ _ _, hw0⟩
end Go.Proofs.Ytallbhdfbkkjkaa
