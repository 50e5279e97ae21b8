/- Layer 10: what the statements share: alive. -/
import Derived.Test.YtofoecpnphoohaaStrU
import Derived.Test.YtofoecpnphoohaaStrL
import Derived.Test.YtofoecpnphoohaaStrO
set_option linter.all false
namespace Go.Proofs.Ytofoecpnphoohaa
open Go.RowKit
namespace Str
open Blo (I64)
theorem os_one {w : World} {x : BOp} {X : Option Addr} {m c : Nat} {t : TypeId} {g : Nat} (hg : g = w.heap.size) (hx : Blo.Dat w x X m c) :
    Blo.Opl (w.alloc (.cells #[.int .i64 x.kind, .int .i64 x.off, .int .i64 x.len, .slice X m c] t)) (some ⟨g, 0, none⟩) 1 [x] := by
  subst hg
  have hb : Below w.heap.size w (w.alloc (.cells #[.int .i64 x.kind, .int .i64 x.off, .int .i64 x.len, .slice X m c] t)) := (Below.refl _ _).alloc (Nat.le_refl _) _
  have hn := Blk.new w t #[.int .i64 x.kind, .int .i64 x.off, .int .i64 x.len, .slice X m c] rfl
  refine ⟨rfl, fun k hk => ?_⟩
  match k, hk with
  | 0, _ => exact ⟨_, 0, X, m, c, rfl, hn.cell rfl, hn.cell rfl, hn.cell rfl, hn.cell rfl, hx.below hb⟩
theorem i64_of {z : Int} (h0 : 0 ≤ z) (h1 : z ≤ 1024) : I64 z := by unfold I64; omega
/-- Records that are encoded are records. -/
theorem all_may {w : World} {A : Option Addr} {n : Nat} {l : List Rec} (h : Rcl w A n l) (he : encE l = 0) : AllMay l := fun r hr => by
  refine ⟨of_decide_eq_true (List.all_eq_true.1 (encE_zero he).1 r hr), ?_⟩
  obtain ⟨k, hk, rfl⟩ := List.getElem_of_mem hr
  obtain ⟨_, _, _, _, _, _, _, hd⟩ := h.each k hk
  exact hd.ns.2
theorem encV_ok {l : List Rec} (he : encE l = 0) : encV l = encL l := by unfold encV; rw [if_pos he]
/-- All that was encoded is read. -/
theorem feed_all {l : List Rec} (h : AllMay l) : (runR (rn.b ++ encL l)).1 = l ∧ feedS rn (encL l) = ⟨[], (encL l).length, 0, 0⟩ := by
  unfold feedS
  simp only [List.nil_append]
  rw [runR_all l h]
  simp
def ah : Rec := ⟨1, 0, 1, 0, 0, 0, 9, []⟩
def ao : BOp := ⟨1, 2, 0, [5]⟩
theorem alive_e : bldE ah [ao] = 0 := by decide +kernel
theorem alive_c : chkE (bldL ah [ao]) = 0 := by decide +kernel
theorem alive_n : encE (bldL ah [ao]) = 0 := by decide +kernel
theorem alive_v : bldV ah [ao] = bldL ah [ao] := by unfold bldV; rw [if_pos alive_e]
theorem alive_3 : (bldL ah [ao]).length = 3 := by decide +kernel
theorem ah_fit : FitR ah := ⟨i64_of (by decide) (by decide), i64_of (by decide) (by decide), i64_of (by decide) (by decide), i64_of (by decide) (by decide), i64_of (by decide) (by decide), i64_of (by decide) (by decide), i64_of (by decide) (by decide)⟩
/-- A Reader behind all that was fed, with no fault. -/
abbrev rd0 (n : Nat) : Rdr := ⟨[], n, 0, 0⟩
theorem waits0 {w : World} {base br n : Nat} (h : Rdo w base br (rd0 n)) : Calls Try.prog 12 #[.pointer (some ⟨br, 0, none⟩)] w fun e w' => e = .returned (.int .i64 0) ∧ w = w' :=
  (waits_ w base br _ h).mono fun e w' hh => hh
theorem fault0 {w : World} {base br n : Nat} (h : Rdo w base br (rd0 n)) : Calls Try.prog 13 #[.pointer (some ⟨br, 0, none⟩)] w fun e w' => e = .returned (.agg #[.int .i64 0, .int .i64 0]) ∧ Below w.heap.size w w' :=
  (rfault_ w base br _ h).mono fun e w' hh => hh
set_option maxRecDepth 100000 in
set_option maxHeartbeats 4000000 in
theorem alive_ (w : World) : Calls Try.prog 9 #[] w fun e w' => e = .returned (.bool true) ∧ Below w.heap.size w w' := by
  obtain ⟨w1, hw1⟩ : ∃ w1, w.alloc (.cells #[.int .u64 5] 52) = w1 := ⟨_, rfl⟩
  have hs1 : w1.heap.size = w.heap.size + 1 := by rw [← hw1]; simp
  have hb1 : Below w.heap.size w w1 := by rw [← hw1]; exact (Below.refl _ _).alloc (Nat.le_refl _) _
  have hd1 : Blo.Dat w1 ao (some ⟨w.heap.size, 0, none⟩) 1 1 := by
    rw [← hw1]
    exact ⟨Ns.new w [5] (by simp) _ rfl rfl rfl, fun h => (by cases h), Nat.le_refl _, by omega, by omega, ⟨i64_of (by decide) (by decide), i64_of (by decide) (by decide), i64_of (by decide) (by decide)⟩⟩
  obtain ⟨w2, hw2⟩ : ∃ w2, w1.alloc (.cells #[.int .i64 1, .int .i64 2, .int .i64 0, .slice (some ⟨w.heap.size, 0, none⟩) 1 1] 58) = w2 := ⟨_, rfl⟩
  have hb2 : Below w.heap.size w w2 := by rw [← hw2]; exact hb1.alloc hb1.size _
  have ho2 : Blo.Opl w2 (some ⟨w.heap.size + 1, 0, none⟩) 1 [ao] := by rw [← hw2]; exact os_one hs1.symm hd1
  have hh2 : Rdt w2 ah none 0 0 := ⟨Ns.nil, fun _ => ⟨rfl, rfl⟩, Nat.le_refl _, by omega, by omega, ah_fit⟩
  clear hd1
  go_enter Try.func9, Try.ntmps9
  go_wp2_with fail
  refine (build_ _ ah none 0 0 hh2 (some ⟨w.heap.size + 1, 0, none⟩) 1 1 [ao] ho2 (by omega)).mono ?_
  unfold BuB BuA
  rw [alive_e, alive_v]
  rintro e w3 ⟨B, m, c, L, rfl, hO, hL, hb3⟩
  have hm3 : m = 3 := by rw [hO.len, ← alive_3, ← hL, List.length_map]
  subst hm3
  obtain ⟨_, hc3, hm3, ha3⟩ := hO.bounds
  have hR := hO.rcl
  rw [hL] at hR
  have hB3 := hb2.trans (hb3.mono hb2.size)
  obtain ⟨l, hl⟩ : ∃ l, bldL ah [ao] = l := ⟨_, rfl⟩
  have hN := alive_n
  have hC := alive_c
  rw [hl] at hR hL hN hC
  have hAM := all_may hR hN
  have hlen := (encE_zero hN).2
  clear hb2 hb3 ho2 hh2 hw1 hw2 hs1 hb1 hl
  go_wp2_with fail
  refine (enc_ _ B 3 c l hR (by omega)).mono ?_
  rw [hN, encV_ok hN]
  rintro e w4 ⟨v4, rfl, hown4, hb4⟩
  obtain ⟨A4, c4, rfl, hc4, hm4, ha4⟩ := own_form hown4
  unfold maxLen at hm4
  have hO4 := hO.keep hb4
  have hR4 := hR.below hb4
  have hB4 := hB3.trans (hb4.mono hB3.size)
  obtain ⟨q, hq⟩ : ∃ q, (encL l).length = q := ⟨_, rfl⟩
  rw [hq] at hown4 hlen hc4 ha4 ⊢
  clear hO hR hB3 hb4
  go_wp2_with fail
  refine (rnew_ _).mono ?_
  rintro e w5 ⟨rfl, hr5, hb5⟩
  have hbs5 := (bs_own hown4).below hb5
  clear hO4 hown4
  go_wp2_with fail
  refine (feed_ _ w4.heap.size w4.heap.size rn A4 q c4 (encL l) hr5 ⟨rfl, rfl⟩ hbs5 hc4 hm4 (by simp; omega) (by simp)).mono ?_
  obtain ⟨f1, f2⟩ := feed_all hAM
  unfold FeA
  rw [f1, f2]
  rintro e w6 ⟨A6, m6, c6, L6, rfl, hO6, hL6, hr6, hg6⟩
  have hB46 : Below w4.heap.size w4 w6 := hb5.grown hg6 hb5.size (fun k hk => by injection hk with hk; omega)
  have hR6 := hR4.below hB46
  have hB6 := hB4.trans (hB46.mono hB4.size)
  have hK6 := hO6.rcl
  rw [hL6] at hK6
  obtain ⟨_, hc6, hm6, ha6⟩ := hO6.bounds
  have hr6 : Rdo w6 w4.heap.size w4.heap.size (rd0 (encL l).length) := hr6
  clear hB46 hR4 hB4 hg6 hb5 hr5 hbs5 f1 f2 hAM hN hq hO6 hL6 hL
  go_wp2_with fail
  refine (rsame_ _ A6 B m6 3 c6 c l l hK6 hR6 (by omega) (by omega)).mono ?_
  rw [decide_eq_true (rfl : l = l)]
  rintro e w7 ⟨rfl, hb7⟩
  have hr7 := hr6.keep hb7
  have hK7 := hK6.below hb7
  have hB7 := hB6.trans (hb7.mono hB6.size)
  clear hr6 hK6 hR6 hB6 hb7
  go_wp2_with fail
  refine (waits0 hr7).mono ?_
  rintro e w8 ⟨rfl, rfl⟩
  go_wp2_with fail
  refine (fault0 hr7).mono ?_
  rintro e w8 ⟨rfl, hb8⟩
  have hK8 := hK7.below hb8
  have hB8 := hB7.trans (hb8.mono hB7.size)
  clear hr7 hK7 hB7 hb8
  go_wp2_with fail
  refine (check_ _ A6 m6 c6 l hK8 hc6 hm6).mono ?_
  rw [hC]
  rintro e w9 ⟨rfl, hb9⟩
  go_wp2
  go_ret
  exact ⟨rfl, hB8.trans (hb9.mono hB8.size)⟩
end Str
end Go.Proofs.Ytofoecpnphoohaa
