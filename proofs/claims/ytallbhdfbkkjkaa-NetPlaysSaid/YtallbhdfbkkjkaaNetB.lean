/- Layer 15: Pack. -/
import Derived.Test.YtallbhdfbkkjkaaNetA
set_option linter.all false
namespace Go.Proofs.Ytallbhdfbkkjkaa
open Go.RowKit
namespace Net
open Str (far sealL)
theorem own_blk {w : World} {g base n : Nat} {e : TypeId} {xs : List UInt8} (h : Blk w g e (bvs xs).toArray) (hb : base ≤ g) (hn : n = xs.length) (hm : n ≤ maxLen) : w.ownsRow base e 1 (.slice (some ⟨g, 0, none⟩) n n) n (bvs xs) :=
  ⟨by rw [bvs_length, hn, Nat.mul_one], .inr ⟨g, n, _, rfl, hb, h, Nat.le_refl _, hm, by simp [bvs, hn], by rw [Nat.mul_one]; exact List.take_of_length_le (by simp [bvs, hn])⟩⟩
theorem one_part (d : List UInt8) : partsBytes [d] = partBytes d := by simp [partsBytes]
/-- The numbers of a message, as they are converted. -/
theorem nat_heads {m : Ms} (h : MayM m) : ∃ a b c d e f : Nat, m = ⟨a, b, c, d, e, f, m.d⟩ ∧ a < 16 ∧ b < 16 ∧ c ≤ 2147483648 ∧ d ≤ 2147483648 ∧ e ≤ 2147483648 ∧ f ≤ 2147483648 ∧ heads m = [a, b, c, d, e, f] := by
  obtain ⟨⟨a1, a2⟩, ⟨b1, b2⟩, ⟨c1, c2⟩, ⟨d1, d2⟩, ⟨e1, e2⟩, ⟨f1, f2⟩, _⟩ := h
  refine ⟨m.fr.toNat, m.to.toNat, m.k.toNat, m.ep.toNat, m.sq.toNat, m.ac.toNat, ?_, by omega, by omega, by omega, by omega, by omega, by omega, rfl⟩
  cases m
  simp only [Ms.mk.injEq, and_true] at *
  omega
section
variable (w : World)
set_option maxRecDepth 100000 in
set_option maxHeartbeats 2000000 in
theorem pack_ (m : Ms) (X : Option Addr) (n c : Nat) (h : Mdt w m X n c) :
    Calls Try.prog 9 #[.agg (ma m (.slice X n c))] w fun e w' => ∃ v, e = .returned (.tuple #[v, .int .i64 (packE m)]) ∧ w'.ownsRow w.heap.size 5 1 v (packL m).length (bvs (packL m)) ∧ Below w.heap.size w w' := by
  have Hm := Lib.hid h.len
  have hle := h.le
  have hcap := h.cap
  have hac := Blk.new w 24 (ma m (.slice X n c)) rfl
  obtain ⟨w1, hw1⟩ : ∃ w1, w.alloc (.cells (ma m (.slice X n c)) 24) = w1 := ⟨_, rfl⟩
  have hs1 : w1.heap.size = w.heap.size + 1 := by rw [← hw1]; simp
  have hb1 : Below w.heap.size w w1 := by rw [← hw1]; exact (Below.refl _ _).alloc (Nat.le_refl _) _
  rw [hw1] at hac
  have h1 := h.below hb1
  have h0 := Lib.hid h
  obtain ⟨d0, d1, d2, d3, d4, d5, d6⟩ := ma_blk hac
  clear h
  by_cases hM : MayM m
  · obtain ⟨HE, HL⟩ := pack_yes hM
    have HE := Lib.hid HE
    have HL := Lib.hid HL
    have HN := Lib.hid (decide_eq_true hM)
    have hn : n ≤ 1200 := by rw [Hm.out]; exact hM.2.2.2.2.2.2
    obtain ⟨y0, y1, y2, y3, y4, y5, hm, k0, k1, k2, k3, k4, k5, hh⟩ := nat_heads hM
    have Hh := Lib.hid hh
    have HM := Lib.hid hM
    obtain ⟨d, hd⟩ : ∃ d, m.d = d := ⟨_, rfl⟩
    rw [hd] at hm
    have Hd := Lib.hid hd
    have HB := Lib.hid (bodyM_length m)
    have q0 := Lib.hid (show m.fr = (y0 : Int) by rw [hm])
    have q1 := Lib.hid (show m.to = (y1 : Int) by rw [hm])
    have q2 := Lib.hid (show m.k = (y2 : Int) by rw [hm])
    have q3 := Lib.hid (show m.ep = (y3 : Int) by rw [hm])
    have q4 := Lib.hid (show m.sq = (y4 : Int) by rw [hm])
    have q5 := Lib.hid (show m.ac = (y5 : Int) by rw [hm])
    clear hM hh hd hm
    go_enter Try.func9, Try.ntmps9
    go_wp2_with fail
    refine (may_ w1 m X n c h1).mono ?_
    rw [HN.out]
    rintro e w2 ⟨rfl, hb2⟩
    have hac2 := hac.keep hb2
    have hB2 := below_step hb1 hb2 (by omega)
    have hs2 := hb2.size
    have hW : Wr (w2.alloc (.cells #[.pointer none, .int .i64 0] 70)) w2.heap.size [] := Wr.new w2 rfl
    obtain ⟨w3, hw3⟩ : ∃ w3, w2.alloc (.cells #[.pointer none, .int .i64 0] 70) = w3 := ⟨_, rfl⟩
    have hs3 : w3.heap.size = w2.heap.size + 1 := by rw [← hw3]; simp
    have hb3 : Below w2.heap.size w2 w3 := by rw [← hw3]; exact (Below.refl _ _).alloc (Nat.le_refl _) _
    rw [hw3] at hW
    have hac3 := hac2.keep hb3
    have hB3 := below_step hB2 hb3 (by omega)
    clear d0 d1 d2 d3 d4 d5 d6 hac hac2 h1 hb1 hb2 hb3
    obtain ⟨d0, d1, d2, d3, d4, d5, d6⟩ := ma_blk hac3
    rw [q0.out] at d0
    rw [q1.out] at d1
    rw [q2.out] at d2
    rw [q3.out] at d3
    rw [q4.out] at d4
    rw [q5.out] at d5
    have hN : Ns (w3.alloc (.cells #[.int .u64 (y0 : Int), .int .u64 (y1 : Int), .int .u64 (y2 : Int), .int .u64 (y3 : Int), .int .u64 (y4 : Int), .int .u64 (y5 : Int)] 72)) (some ⟨w3.heap.size, 0, none⟩) 6 [y0, y1, y2, y3, y4, y5] :=
      Ns.new w3 _ (by simp only [List.mem_cons, List.not_mem_nil, or_false, forall_eq_or_imp, forall_eq]; omega) _ rfl rfl rfl
    obtain ⟨w4, hw4⟩ : ∃ w4, w3.alloc (.cells #[.int .u64 (y0 : Int), .int .u64 (y1 : Int), .int .u64 (y2 : Int), .int .u64 (y3 : Int), .int .u64 (y4 : Int), .int .u64 (y5 : Int)] 72) = w4 := ⟨_, rfl⟩
    have hb4 : Below w3.heap.size w3 w4 := by rw [← hw4]; exact (Below.refl _ _).alloc (Nat.le_refl _) _
    have hs4 : w4.heap.size = w3.heap.size + 1 := by rw [← hw4]; simp
    rw [hw4] at hN
    have hW4 := hW.below hb4
    have hac4 := hac3.keep hb4
    have hB4 := below_step hB3 hb4 (by omega)
    clear hW hac3 hb4
    go_wp2_with fail
    rw [hs3] at hN
    refine (put_ w2.heap.size [] _ 6 6 _ _ hW4 hN (Nat.le_refl _) (by omega) (by simp)).mono ?_
    rintro e w5 ⟨rfl, hV, hg5⟩
    rw [List.nil_append, ← Hh.out] at hV
    have hs5 := hg5.size
    have hB5 : Below w.heap.size w w5 := hB4.grown hg5 hB4.size (fun k hk => by injection hk with hk; omega)
    have hac5 := hac4.grown hg5 (fun e => by injection e with e; omega)
    have h5 := h0.out.below hB5
    obtain ⟨xb, hxb⟩ : ∃ xb, numsBytes (heads m) = xb := ⟨_, rfl⟩
    have hxl : xb.length = 48 := by rw [← hxb, numsBytes_length]; rfl
    rw [hxb] at hV
    have Hxb := Lib.hid hxb
    clear d0 d1 d2 d3 d4 d5 d6 hW4 hac4 hN hg5 hw4 hB4 hxb hw1 hw3
    obtain ⟨_, _, _, _, _, _, d6⟩ := ma_blk hac5
    have hP : Bss (w5.alloc (.cells #[.slice X n c] 22)) (some ⟨w5.heap.size, 0, none⟩) 1 [m.d] := Bss.row1 rfl h5.bs hle hcap
    obtain ⟨w6, hw6⟩ : ∃ w6, w5.alloc (.cells #[.slice X n c] 22) = w6 := ⟨_, rfl⟩
    have hb6 : Below w5.heap.size w5 w6 := by rw [← hw6]; exact (Below.refl _ _).alloc (Nat.le_refl _) _
    rw [hw6] at hP
    have hV6 := hV.below hb6
    have hB6 := below_step hB5 hb6 (by omega)
    have hs6 := hb6.size
    have hpl : (partsBytes [m.d]).length = 8 + n := by rw [one_part, partBytes_length, Hm.out]
    have Hpl := Lib.hid hpl
    clear hV hac5 h5 hb6 hpl
    go_wp2_with fail
    refine (part_ w2.heap.size xb _ 1 1 [m.d] _ hV6 hP (Nat.le_refl _) (by omega) (by rw [hxl, Hpl.out]; omega)).mono ?_
    rintro e w7 ⟨rfl, hV7, hg7⟩
    have hs7 := hg7.size
    have hB7 : Below w.heap.size w w7 := hB6.grown hg7 hB6.size (fun k hk => by injection hk with hk; omega)
    have Hyb := Lib.hid (show xb ++ partsBytes [m.d] = bodyM m by rw [one_part, ← Hxb.out]; rfl)
    rw [Hyb.out] at hV7
    obtain ⟨yb, hyb⟩ : ∃ yb, bodyM m = yb := ⟨_, rfl⟩
    have hyl : yb.length = 56 + n := by rw [← hyb, HB.out, Hm.out]
    have Hy := Lib.hid hyb
    rw [hyb] at hV7
    clear hyb hV6 hP hg7 hB6 hw6 d6
    go_wp2_with fail
    refine (bytes_ w2.heap.size yb _ hV7 (by omega)).mono ?_
    rintro e w8 ⟨rfl, hk8, hb8⟩
    have hbs := bs_blk hk8
    have hB8 := below_step hB7 hb8 (by omega)
    obtain ⟨g8, hg8⟩ : ∃ g, w7.heap.size = g := ⟨_, rfl⟩
    rw [hg8] at hbs
    have hs8 := hb8.size
    rw [hg8]
    obtain ⟨yn, hyn⟩ : ∃ n, yb.length = n := ⟨_, rfl⟩
    rw [hyn] at hbs hyl ⊢
    have Hyn := Lib.hid hyn
    have Hyl := Lib.hid hyl
    have hyl1 : yn ≤ 1300 := by omega
    clear hyn hyl hV7 hk8 hb8 hB7
    go_wp2_with fail
    refine (seal_ (some ⟨g8, 0, none⟩) yn yn yb _ hbs (fun h => by cases h) (Nat.le_refl _) (by omega) (by omega)).mono ?_
    rintro e w9 ⟨v9, rfl, hown9, hb9⟩
    have Hs := Lib.hid (show yb ++ sumBytes (adOf [yb]) = msgB m by rw [msgB, sealL, Hy.out])
    have Hn := Lib.hid (show yn + 4 = (msgB m).length by rw [msgB_length, Hyl.out, Hm.out]; omega)
    have hB9 := below_step hB8 hb9 (by omega)
    rw [Hs.out] at hown9
    clear hB8 hb9 hbs
    go_wp2
    go_ret2
    rw [HE.out, HL.out, ← Hn.out]
    exact ⟨_, rfl, hown9.mono (by omega), hB9⟩
  · obtain ⟨HE, HL⟩ := pack_no hM
    have HE := Lib.hid HE
    have HL := Lib.hid HL
    have HN := Lib.hid (decide_eq_false hM)
    clear hM
    go_enter Try.func9, Try.ntmps9
    go_wp2_with fail
    refine (may_ w1 m X n c h1).mono ?_
    rw [HN.out]
    rintro e w2 ⟨rfl, hb2⟩
    go_wp2
    go_ret2
    rw [HE.out, HL.out]
    exact ⟨_, rfl, own_nil _ _ _ _, below_step hb1 hb2 (by omega)⟩
end
end Net
end Go.Proofs.Ytallbhdfbkkjkaa
