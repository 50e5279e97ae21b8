/- Layer 10: a record's bytes: encode. -/
import Derived.Test.YtofoecpnphoohaaStrC
set_option linter.all false
namespace Go.Proofs.Ytofoecpnphoohaa
open Go.RowKit
namespace Str
open Blo (I64)
theorem recB_parts (r : Rec) : partsBytes [sealL (bodyR r)] = recB r := by simp [partsBytes, partBytes, recB]
theorem own_blk {w : World} {g base n : Nat} {e : TypeId} {xs : List UInt8} (h : Blk w g e (bvs xs).toArray) (hb : base ≤ g) (hn : n = xs.length) (hm : n ≤ maxLen) : w.ownsRow base e 1 (.slice (some ⟨g, 0, none⟩) n n) n (bvs xs) :=
  ⟨by rw [bvs_length, hn, Nat.mul_one], .inr ⟨g, n, _, rfl, hb, h, Nat.le_refl _, hm, by simp [bvs, hn], by rw [Nat.mul_one]; exact List.take_of_length_le (by simp [bvs, hn])⟩⟩
section
variable (w : World)
set_option maxRecDepth 100000 in
set_option maxHeartbeats 2000000 in
theorem encode_ (r : Rec) (X : Option Addr) (m c : Nat) (h : Rdt w r X m c) (hr : MayR r) :
    Calls Try.prog 20 #[.agg (ra r (.slice X m c))] w fun e w' => ∃ v, e = .returned v ∧ w'.ownsRow w.heap.size 5 1 v (recB r).length (bvs (recB r)) ∧ Below w.heap.size w w' := by
  have hd := hr.1.data
  have Hm := Lib.hid h.len
  have hm64 : m ≤ 64 := by rw [Hm.out]; exact hd
  have hbl := Lib.hid (bodyR_length r)
  have hrl := Lib.hid (recB_length r)
  have hac := Blk.new w 39 (ra r (.slice X m c)) rfl
  obtain ⟨w1, hw1⟩ : ∃ w1, w.alloc (.cells (ra r (.slice X m c)) 39) = w1 := ⟨_, rfl⟩
  have hs1 : w1.heap.size = w.heap.size + 1 := by rw [← hw1]; simp
  have hb1 : Below w.heap.size w w1 := by rw [← hw1]; exact (Below.refl _ _).alloc (Nat.le_refl _) _
  rw [hw1] at hac
  have hW1 : Wr (w1.alloc (.cells #[.pointer none, .int .i64 0] 70)) (w.heap.size + 1) [] := Wr.new w1 hs1.symm
  obtain ⟨w2, hw2⟩ : ∃ w2, w1.alloc (.cells #[.pointer none, .int .i64 0] 70) = w2 := ⟨_, rfl⟩
  have hs2 : w2.heap.size = w.heap.size + 2 := by rw [← hw2]; simp [hs1]
  have hb2 : Below w1.heap.size w1 w2 := by rw [← hw2]; exact (Below.refl _ _).alloc (Nat.le_refl _) _
  rw [hw2] at hW1
  have hW2 : Wr (w2.alloc (.cells #[.pointer none, .int .i64 0] 70)) (w.heap.size + 2) [] := Wr.new w2 hs2.symm
  obtain ⟨w3, hw3⟩ : ∃ w3, w2.alloc (.cells #[.pointer none, .int .i64 0] 70) = w3 := ⟨_, rfl⟩
  have hs3 : w3.heap.size = w.heap.size + 3 := by rw [← hw3]; simp [hs2]
  have hb3 : Below w2.heap.size w2 w3 := by rw [← hw3]; exact (Below.refl _ _).alloc (Nat.le_refl _) _
  rw [hw3] at hW2
  have hV1 := hW1.below hb3
  have hB3 : Below w.heap.size w w3 := below_step (below_step hb1 hb2 (Nat.le_refl _)) hb3 (Nat.le_refl _)
  have hac3 := (hac.keep hb2).keep hb3
  have hr3 := h.below hB3
  obtain ⟨d0, d1, d2, d3, d4, d5, d6, d7⟩ := (rc_blk hac3).all
  simp only [Nat.zero_add] at d0 d1 d2 d3 d4 d5 d6 d7
  clear hac h hb1 hb2 hb3 hW1 hac3
  go_enter Try.func20, Try.ntmps20
  go_wp2_with fail
  refine (figures_ _ r X m c hr3 hr).mono ?_
  rintro e w4 ⟨v4, rfl, hown4, hb4⟩
  obtain ⟨A4, c4, rfl, hc4, hm4, ha4⟩ := own_form hown4
  unfold maxLen at hm4
  have hV1' := hV1.below hb4
  have hV2' := hW2.below hb4
  have hs4 := hb4.size
  have hB4 := below_step hB3 hb4 (by omega)
  have hlow : ∀ z ∈ heads r ++ r.d, z < 18446744073709551616 := fun z hz => by
    rcases List.mem_append.1 hz with hz | hz
    · exact heads_lt hr z hz
    · exact hr3.ns.2 z hz
  have hNs := no_ns (l := heads r ++ r.d) hown4 hlow
  clear d0 d1 d2 d3 d4 d5 d6 d7 hw1 hw2 hw3 hV1 hW2 hown4 hb4 hB3
  go_wp2_with fail
  refine (put_ (w.heap.size + 1) [] A4 (8 + m) c4 _ _ hV1' hNs hc4 hm4 (by simp; omega)).mono ?_
  rintro e w5 ⟨rfl, hV1, hg5⟩
  rw [List.nil_append] at hV1
  have hV2 := hV2'.grown hg5 (fun k hk => by injection hk with hk; omega)
  have hB5 : Below w.heap.size w w5 := hB4.grown hg5 hB4.size (fun k hk => by injection hk with hk; omega)
  have hs5 := hg5.size
  obtain ⟨yb, hyb⟩ : ∃ yb, numsBytes (heads r ++ r.d) = yb := ⟨_, rfl⟩
  have Hyb := Lib.hid (show bodyR r = yb from hyb)
  have hyl : yb.length = 64 + 8 * m := by rw [← Hyb.out, hbl.out, Hm.out]
  rw [hyb] at hV1
  clear hyb hV1' hV2' hNs hB4 hg5
  go_wp2_with fail
  refine (bytes_ (w.heap.size + 1) yb _ hV1 (by omega)).mono ?_
  rintro e w6 ⟨rfl, hk6, hb6⟩
  have hV2' := hV2.below hb6
  have hs6 := hb6.size
  have hB6 := below_step hB5 hb6 (by omega)
  have hbs := bs_blk hk6
  obtain ⟨g6, hg6⟩ : ∃ g, w5.heap.size = g := ⟨_, rfl⟩
  obtain ⟨yn, hyn⟩ : ∃ n, yb.length = n := ⟨_, rfl⟩
  rw [hg6, hyn] at hbs ⊢
  rw [hyn] at hyl
  have Hyn := Lib.hid hyn
  have hyl1 : yn ≤ 600 := by omega
  clear hyl hyn hV1 hV2 hk6 hb6 hB5
  go_wp2_with fail
  refine (seal_ (some ⟨g6, 0, none⟩) yn yn yb _ hbs (fun h => by cases h) (Nat.le_refl _) (by omega) (by omega)).mono ?_
  rintro e w7 ⟨v7, rfl, hown7, hb7⟩
  obtain ⟨A7, c7, rfl, hc7, hm7, ha7⟩ := own_form hown7
  unfold maxLen at hm7
  have hV2 := hV2'.below hb7
  have hs7 := hb7.size
  have hB7 := below_step hB6 hb7 (by omega)
  have Hs := Lib.hid (show yb ++ sumBytes (adOf [yb]) = sealL (bodyR r) by rw [Hyb.out]; rfl)
  rw [Hs.out] at hown7
  have hbs7 := bs_own hown7
  clear hV2' hbs hB6 hb7 hown7 hg6
  have hrow : Bss (w7.alloc (.cells #[.slice A7 (yn + 4) c7] 23)) (some ⟨w7.heap.size, 0, none⟩) 1 [sealL (bodyR r)] := Bss.row1 rfl hbs7 hc7 hm7
  have hba : Below w7.heap.size w7 (w7.alloc (.cells #[.slice A7 (yn + 4) c7] 23)) := (Below.refl _ _).alloc (Nat.le_refl _) _
  have hV2b := hV2.below hba
  have hB8 : Below w.heap.size w (w7.alloc (.cells #[.slice A7 (yn + 4) c7] 23)) := below_step hB7 hba (by omega)
  go_wp2_with fail
  refine (part_ (w.heap.size + 2) [] (some ⟨w7.heap.size, 0, none⟩) 1 1 [sealL (bodyR r)] _ hV2b hrow (Nat.le_refl _) (by omega) (by rw [recB_parts, hrl.out, List.length_nil]; omega)).mono ?_
  rintro e w9 ⟨rfl, hV3, hg9⟩
  rw [List.nil_append, recB_parts] at hV3
  have hB9 : Below w.heap.size w w9 := hB8.grown hg9 hB8.size (fun k hk => by injection hk with hk; omega)
  obtain ⟨zb, hzb⟩ : ∃ z, recB r = z := ⟨_, rfl⟩
  rw [hzb] at hV3
  have hzl : zb.length ≤ 1000 := by rw [← hzb, hrl.out]; omega
  have Hzb := Lib.hid hzb
  clear hV2 hV2b hrow hba hB7 hB8 hg9 hbs7 hzb
  go_wp2_with fail
  refine (bytes_ (w.heap.size + 2) zb _ hV3 (by omega)).mono ?_
  rintro e w10 ⟨rfl, hk10, hb10⟩
  go_wp2
  go_ret
  rw [Hzb.out]
  exact ⟨_, rfl, own_blk hk10 hB9.size rfl (by unfold maxLen; omega), below_step hB9 hb10 (by omega)⟩
end
end Str
end Go.Proofs.Ytofoecpnphoohaa
