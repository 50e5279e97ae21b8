/- Layer 15: the document's Pack. -/
import Derived.Test.YtlmaelbalmjlbaaNetE
import Derived.Test.YtlmaelbalmjlbaaNetB
set_option linter.all false
namespace Go.Proofs.Ytlmaelbalmjlbaa
open Go.RowKit
namespace Net
open Str (far sealL)
section
variable (w : World)
set_option maxRecDepth 100000 in
set_option maxHeartbeats 2000000 in
theorem rpack_ (m : Ms) (X : Option Addr) (n c : Nat) (h : Mdt w m X n c) :
    Calls Try.prog 43 #[.agg (ma m (.slice X n c))] w fun e w' => ∃ v, e = .returned (.tuple #[v, .int .i64 (packE m)]) ∧ w'.ownsRow w.heap.size 5 1 v (packL m).length (bvs (packL m)) ∧ Below w.heap.size w w' := by
  have Hm := Lib.hid h.len
  have hle := h.le
  have hcap := h.cap
  have hac := Blk.new w 36 (ma m (.slice X n c)) rfl
  obtain ⟨w1, hw1⟩ : ∃ w1, w.alloc (.cells (ma m (.slice X n c)) 36) = w1 := ⟨_, rfl⟩
  have hs1 : w1.heap.size = w.heap.size + 1 := by rw [← hw1]; simp
  have hb1 : Below w.heap.size w w1 := by rw [← hw1]; exact (Below.refl _ _).alloc (Nat.le_refl _) _
  rw [hw1] at hac
  have h1 := h.below hb1
  have h0 := Lib.hid h
  obtain ⟨d0, d1, d2, d3, d4, d5, d6⟩ := ma_blk hac
  clear h
  by_cases hM : MayM m
  · obtain ⟨HE, HL⟩ := pack_yes hM
    have HE := Lib.hid HE
    have HL := Lib.hid HL
    have HN := Lib.hid (decide_eq_true hM)
    have hn : n ≤ 1200 := by rw [Hm.out]; exact hM.2.2.2.2.2.2
    obtain ⟨y0, y1, y2, y3, y4, y5, hm, k0, k1, k2, k3, k4, k5, hh⟩ := nat_heads hM
    have Hh := Lib.hid hh
    have HM := Lib.hid hM
    obtain ⟨d, hd⟩ : ∃ d, m.d = d := ⟨_, rfl⟩
    rw [hd] at hm
    have Hd := Lib.hid hd
    have HB := Lib.hid (bodyM_length m)
    have q0 := Lib.hid (show m.fr = (y0 : Int) by rw [hm])
    have q1 := Lib.hid (show m.to = (y1 : Int) by rw [hm])
    have q2 := Lib.hid (show m.k = (y2 : Int) by rw [hm])
    have q3 := Lib.hid (show m.ep = (y3 : Int) by rw [hm])
    have q4 := Lib.hid (show m.sq = (y4 : Int) by rw [hm])
    have q5 := Lib.hid (show m.ac = (y5 : Int) by rw [hm])
    clear hM hh hd hm
    go_enter Try.func43, Try.ntmps43
    go_wp2_with fail
    refine (rright_ w1 m X n c h1).mono ?_
    rw [HN.out]
    rintro e w2 ⟨rfl, hb2⟩
    have hac2 := hac.keep hb2
    have hB2 := below_step hb1 hb2 (by omega)
    have hs2 := hb2.size
    clear d0 d1 d2 d3 d4 d5 d6 hac h1 hb1 hb2 hw1
    obtain ⟨d0, d1, d2, d3, d4, d5, d6⟩ := ma_blk hac2
    rw [q0.out] at d0
    rw [q1.out] at d1
    rw [q2.out] at d2
    rw [q3.out] at d3
    rw [q4.out] at d4
    rw [q5.out] at d5
    have hN : Ns (w2.alloc (.cells #[.int .u64 (y0 : Int), .int .u64 (y1 : Int), .int .u64 (y2 : Int), .int .u64 (y3 : Int), .int .u64 (y4 : Int), .int .u64 (y5 : Int)] 107)) (some ⟨w2.heap.size, 0, none⟩) 6 [y0, y1, y2, y3, y4, y5] :=
      Ns.new w2 _ (by simp only [List.mem_cons, List.not_mem_nil, or_false, forall_eq_or_imp, forall_eq]; omega) _ rfl rfl rfl
    obtain ⟨w4, hw4⟩ : ∃ w4, w2.alloc (.cells #[.int .u64 (y0 : Int), .int .u64 (y1 : Int), .int .u64 (y2 : Int), .int .u64 (y3 : Int), .int .u64 (y4 : Int), .int .u64 (y5 : Int)] 107) = w4 := ⟨_, rfl⟩
    have hb4 : Below w2.heap.size w2 w4 := by rw [← hw4]; exact (Below.refl _ _).alloc (Nat.le_refl _) _
    have hs4 := hb4.size
    rw [hw4] at hN
    have hac4 := hac2.keep hb4
    have hB4 := below_step hB2 hb4 (by omega)
    clear hac2 hb4
    go_wp2_with fail
    refine (refPut none (some ⟨w2.heap.size, 0, none⟩) 0 0 6 6 [] [y0, y1, y2, y3, y4, y5] _ Bs.nil (fun _ => rfl) (Nat.le_refl _) hN (by omega) (Nat.le_refl _) (by omega)).mono ?_
    rw [List.nil_append, ← Hh.out]
    obtain ⟨xb, hxb⟩ : ∃ xb, numsBytes (heads m) = xb := ⟨_, rfl⟩
    have hxl : xb.length = 48 := by rw [← hxb, numsBytes_length]; rfl
    rw [hxb]
    have Hxb := Lib.hid hxb
    rintro e w5 ⟨v5, rfl, hown5, hb5⟩
    obtain ⟨A5, c5, rfl, hc5, hm5, ha5⟩ := own_form hown5
    unfold maxLen at hm5
    have hs5 := hb5.size
    have hbs5 := bs_own hown5
    have hB5 := below_step hB4 hb5 (by omega)
    have hac5 := hac4.keep hb5
    have h5 := h0.out.below hB5
    clear d0 d1 d2 d3 d4 d5 d6 hac4 hN hw4 hB4 hxb hown5 hb5 hB2
    obtain ⟨_, _, _, _, _, _, d6⟩ := ma_blk hac5
    have hP : Bss (w5.alloc (.cells #[.slice X n c] 34)) (some ⟨w5.heap.size, 0, none⟩) 1 [m.d] := Bss.row1 rfl h5.bs hle hcap
    obtain ⟨w6, hw6⟩ : ∃ w6, w5.alloc (.cells #[.slice X n c] 34) = w6 := ⟨_, rfl⟩
    have hb6 : Below w5.heap.size w5 w6 := by rw [← hw6]; exact (Below.refl _ _).alloc (Nat.le_refl _) _
    rw [hw6] at hP
    have hbs6 := hbs5.below hb6
    have hB6 := below_step hB5 hb6 (by omega)
    have hs6 := hb6.size
    have hpl : (partsBytes [m.d]).length = 8 + n := by rw [one_part, partBytes_length, Hm.out]
    have Hpl := Lib.hid hpl
    clear hac5 h5 hb6 hpl hbs5 hB5
    go_wp2_with fail
    refine (refPart A5 _ 48 c5 1 1 xb [m.d] _ hbs6 (fun h => by have := (ha5 h).1; omega) hc5 (by omega) hP (by omega) (Nat.le_refl _) (by rw [Hpl.out]; omega)).mono ?_
    rw [show xb ++ partsBytes [m.d] = bodyM m by rw [one_part, ← Hxb.out]; rfl]
    obtain ⟨yb, hyb⟩ : ∃ yb, bodyM m = yb := ⟨_, rfl⟩
    have hyl : yb.length = 56 + n := by rw [← hyb, HB.out, Hm.out]
    have Hy := Lib.hid hyb
    rw [hyb]
    rintro e w7 ⟨A7, n7, c7, rfl, hbs7, ha7, hnc7, hc7, hb7⟩
    have hB7 := below_step hB6 hb7 (by omega)
    have hs7 := hb7.size
    have Hn7 := Lib.hid hbs7.len
    have Hyl := Lib.hid hyl
    have hyl1 : n7 ≤ 1300 := by have := Hn7.out; omega
    clear hyb hP hB6 hw6 d6 hbs6 hb7 hyl
    go_wp2_with fail
    refine (refSeal A7 n7 c7 yb _ hbs7 ha7 hnc7 (by omega) (by omega)).mono ?_
    rintro e w9 ⟨v9, rfl, hown9, hb9⟩
    have Hs := Lib.hid (show yb ++ sumBytes (adOf [yb]) = msgB m by rw [msgB, sealL, Hy.out])
    have Hn := Lib.hid (show n7 + 4 = (msgB m).length by rw [msgB_length, Hn7.out, Hyl.out, Hm.out]; omega)
    have hB9 := below_step hB7 hb9 (by omega)
    rw [Hs.out] at hown9
    clear hB7 hb9 hbs7
    go_wp2
    go_ret2
    rw [HE.out, HL.out, ← Hn.out]
    exact ⟨_, rfl, hown9.mono (by omega), hB9⟩
  · obtain ⟨HE, HL⟩ := pack_no hM
    have HE := Lib.hid HE
    have HL := Lib.hid HL
    have HN := Lib.hid (decide_eq_false hM)
    clear hM
    go_enter Try.func43, Try.ntmps43
    go_wp2_with fail
    refine (rright_ w1 m X n c h1).mono ?_
    rw [HN.out]
    rintro e w2 ⟨rfl, hb2⟩
    go_wp2
    go_ret2
    rw [HE.out, HL.out]
    exact ⟨_, rfl, own_nil _ _ _ _, below_step hb1 hb2 (by omega)⟩
end
end Net
end Go.Proofs.Ytlmaelbalmjlbaa
