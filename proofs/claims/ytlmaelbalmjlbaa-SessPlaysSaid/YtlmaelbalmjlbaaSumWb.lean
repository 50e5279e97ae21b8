/- Walks of tail, Equal, Clone, Seal, Open and of their twins in the document's answers. -/
import Derived.Test.YtlmaelbalmjlbaaSumWa
import Derived.Test.YtlmaelbalmjlbaaClone
import Derived.Test.YtlmaelbalmjlbaaSame
set_option linter.all false
namespace Go.Proofs.Ytlmaelbalmjlbaa
open Go.RowKit

set_option maxRecDepth 100000 in
set_option maxHeartbeats 400000 in
theorem refSeal (A : Option Addr) (n c : Nat) (xs : List UInt8) (w : World) (hr : Bs w A n xs) (hA : A = none → n = 0) (hnc : n ≤ c) (hc : c ≤ 9223372036854775807) (hnb : n ≤ 140737488351300) :
    Calls Try.prog 54 #[.slice A n c] w fun e w' => ∃ v, e = .returned v ∧ w'.ownsRow w.heap.size 5 1 v (n + 4) (bvs (xs ++ sumBytes (adOf [xs]))) ∧ Below w.heap.size w w' := by
  obtain ⟨i0, hi0, hz0, hz1, hz2⟩ := info_parts info_u8
  have Hz := Lib.hid hz2
  clear hz2
  have hs := adOf_lt [xs]
  have he := Lib.hid (show adMore 1 xs = adOf [xs] from rfl)
  have h1 : ((UInt8.ofNat (adOf [xs] / 16777216)).toNat : Int) = (adOf [xs] : Int) / 16777216 := by rw [UInt8.toNat_ofNat']; omega
  have h2 : ((UInt8.ofNat (adOf [xs] / 65536)).toNat : Int) = (adOf [xs] : Int) / 65536 % 256 := by rw [UInt8.toNat_ofNat']; omega
  have h3 : ((UInt8.ofNat (adOf [xs] / 256)).toNat : Int) = (adOf [xs] : Int) / 256 % 256 := by rw [UInt8.toNat_ofNat']; omega
  have h4 : ((UInt8.ofNat (adOf [xs])).toNat : Int) = (adOf [xs] : Int) % 256 := by rw [UInt8.toNat_ofNat']; omega
  have H0 : ((bvs (sumBytes (adOf [xs]))).toArray = #[Value.int .u8 ((adOf [xs] : Int) / 16777216), Value.int .u8 ((adOf [xs] : Int) / 65536 % 256), Value.int .u8 ((adOf [xs] : Int) / 256 % 256), Value.int .u8 ((adOf [xs] : Int) % 256)]) := by
    simp only [bvs, sumBytes, List.map_cons, List.map_nil, bv, h1, h2, h3, h4]
  have H := Lib.hid H0
  clear h1 h2 h3 h4 H0
  go_enter Try.func54, Try.ntmps54
  go_wp2_with (first
    | (go_at_call 58
       refine (refMore 1 (by omega) _ _ _ xs _ hr (by omega)).mono ?_
       rw [he.out]
       rintro e w' ⟨rfl, rfl⟩)
    | (at_builtin
       refine wpList_app _ rfl (.const (.slice none 0 0)) (.tmp 6) _ rfl w.heap.size 5 i0 (.int .u8 0) 1 1 Try.underlying34 hi0 hz0 hz1 Hz.out rfl Nat.one_pos (.slice none 0 0) 0 [] rfl (own_nil _ _ _ _) A n c (bvs xs) rfl hA hr (bvs_one xs) (by unfold maxLen; omega) (by omega) (Nat.le_refl _) ?_
       intro v2 w2 hown2 hg2 hat2
       have hb2 : Below w.heap.size w w2 := (Below.refl _ _).grown hg2 (Nat.le_refl _) (fun k hk => by simp [Value.ownBlock] at hk)
       simp only [Nat.zero_add, List.nil_append] at hown2
       obtain ⟨A2, c2, rfl, hc2, hm2, hA2⟩ := own_form hown2
       have hb3 := hb2.alloc hb2.size (.cells (bvs (sumBytes (adOf [xs]))).toArray 5)
       have hown3 := hown2.alloc (.cells (bvs (sumBytes (adOf [xs]))).toArray 5)
       have hnew := Bs.new w2 (sumBytes (adOf [xs])) 5 (0, 0)
       rw [H.out] at hb3 hown3 hnew)
    | (at_builtin
       refine wpList_app _ rfl (.tmp 7) (.tmp 19) _ rfl w.heap.size 5 i0 (.int .u8 0) 1 1 Try.underlying34 hi0 hz0 hz1 Hz.out rfl Nat.one_pos (.slice A2 n c2) n (bvs xs) rfl hown3 _ 4 4 (bvs (sumBytes (adOf [xs]))) rfl (by simp) hnew (bvs_one _) (by unfold maxLen; omega) (by omega) hb3.size ?_
       intro v4 w4 hown4 hg4 hat4
       have hb4 : Below w.heap.size w w4 := hb3.grown hg4 hb3.size (fun k hk => (hown3.lt k hk).1)
       rw [← bvs_append] at hown4))
  go_ret
  exact ⟨v4, rfl, hown4, hb4⟩

set_option maxRecDepth 100000 in
set_option maxHeartbeats 4000000 in
theorem refOpen (A : Option Addr) (n c : Nat) (xs : List UInt8) (w : World) (hr : Bs w A n xs) (hA : A = none → n = 0 ∧ c = 0) (hnc : n ≤ c) (hc : c ≤ 9223372036854775807) (hnb : n ≤ 140737488351300) :
    Calls Try.prog 48 #[.slice A n c] w fun e w' => ∃ v, e = .returned (.tuple #[v, .int .i64 (openE xs)]) ∧ w'.ownsRow w.heap.size 5 1 v (openL xs).length (bvs (openL xs)) ∧ Below w.heap.size w w' := by
  obtain ⟨i0, hi0, hz0, hz1, hz2⟩ := info_parts info_u8
  have Hz := Lib.hid hz2
  clear hz2
  have Hl := Lib.hid hr.len
  by_cases h4 : n < 4
  · have hk := okSum_small xs (by rw [← Hl.out]; exact h4)
    have HL := Lib.hid (show openL xs = [] by unfold openL; rw [hk]; rfl)
    have HE := Lib.hid (show openE xs = 4 by unfold openE; rw [hk]; rfl)
    have hd : decide ((n : Int) - 4 < 0) = true := by simp; omega
    clear hk
    go_enter Try.func48, Try.ntmps48
    go_wp2
    go_quiet (fail)
    go_wp2
    go_ret2
    rw [HL.out, HE.out]
    exact ⟨_, rfl, own_nil _ _ _ _, below_drewN (Below.refl _ _) _⟩
  · obtain ⟨k, rfl⟩ : ∃ k, n = k + 4 := ⟨n - 4, by omega⟩
    obtain ⟨b, o, rfl, _⟩ := hr.at_ (k := 0) (by omega)
    have hd : decide ((k : Int) < 0) = false := by simp
    have ht := hr.take (k := k) (by omega)
    have t1 : (k : Int) ≤ (k : Int) + 4 := by omega
    have t2 : k ≤ c := by omega
    have t3 : ¬ c = k := by omega
    have kx := fun (w' : World) (h : Bs w' (some ⟨b, o, none⟩) (k + 4) xs) => run_str (P := Try.prog) h (by simp) 34 9 5 Try.underlying34 Try.underlying5 Try.underlying9 c
    have q0 := kx w.drew hr.drew
    have Kx := Lib.hid kx
    clear kx
    go_enter Try.func48, Try.ntmps48
    go_wp2
    go_region_with (first
      | (go_at_call 54
         refine (refSeal _ _ _ (xs.take k) _ (by exact ht) (by simp) t2 hc (by omega)).mono ?_
         rintro e w' ⟨v, rfl, hown, hbb⟩
         obtain ⟨A2, c2, rfl, hc2, hm2, hA2⟩ := own_form hown
         have q1 := run_str (P := Try.prog) (bs_own hown) (fun h => (hA2 h).1) 34 9 5 Try.underlying34 Try.underlying5 Try.underlying9 c2
         have q2 := Kx.out w' (hr.drew.below hbb)))
    all_goals
      have hok := okSum_join xs k Hl.out
      have hw0 : Below w.heap.size w w' := (Below.refl _ _).drew.trans hbb
      have ht' := ht.below hw0
      generalize xs.take k ++ sumBytes (adOf [xs.take k]) = ys at *
      have HL := Lib.hid (show openL xs = if (ys == xs) = true then xs.take k else [] by
        unfold openL; rw [hok, show xs.length - 4 = k by rw [← Hl.out]; omega])
      have HE := Lib.hid (show openE xs = if (ys == xs) = true then 0 else 4 by
        unfold openE; rw [hok])
      have Hk := Lib.hid ht'.len
      clear hok q0 q1 q2 hd t1 t3 ht hr hA hbb hown hc2 hm2 hA2
      generalize (ys == xs) = q at *
      cases q with
      | true =>
        go_wp2_with (first
          | (at_builtin
             refine wpList_app _ rfl (.const (.slice none 0 0)) (.tmp 22) _ rfl w.heap.size 5 i0 (.int .u8 0) 1 1 Try.underlying34 hi0 hz0 hz1 Hz.out rfl Nat.one_pos (.slice none 0 0) 0 [] rfl (own_nil _ _ _ _) _ k c (bvs (xs.take k)) rfl (by simp) ht' (bvs_one _) (by unfold maxLen; omega) (by omega) hw0.size ?_
             intro v2 w2 hown2 hg2 hat2
             have hb2 : Below w.heap.size w w2 := hw0.grown hg2 hw0.size (fun k hk => by simp [Value.ownBlock] at hk)
             simp only [Nat.zero_add, List.nil_append] at hown2))
        go_ret2
        rw [HL.out, HE.out]
        refine ⟨v2, rfl, ?_, hb2⟩
        simp only [if_true]
        rw [← Hk.out]
        exact hown2
      | false =>
        go_wp2
        go_ret2
        rw [HL.out, HE.out]
        exact ⟨_, rfl, own_nil _ _ _ _, hw0⟩
end Go.Proofs.Ytlmaelbalmjlbaa
