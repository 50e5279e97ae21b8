/- Layer 13: the map that every statement looks at. -/
import Derived.Test.YtncapionioeieaaSmaN
import Derived.Test.YtncapionioeieaaSmaL
set_option linter.all false
namespace Go.Proofs.Ytncapionioeieaa
open Go.RowKit
namespace Sma

def l3 : List Pc := [⟨0, 4, 0⟩, ⟨4, 7, 1⟩, ⟨7, 10, 2⟩]
theorem new_three : newA 10 [0, 1, 2] = (⟨1, 10, l3⟩, 0) := rfl
theorem right_three : (⟨1, 10, l3⟩ : Mp).right = true := by decide +kernel
theorem find_three : findA ⟨1, 10, l3⟩ 6 = (1, 0) := by decide +kernel
theorem ps_three {w : World} {p q r : Pc} (fp : Fit p) (fq : Fit q) (fr : Fit r) {g : Nat} (hg : g = w.heap.size) : Ps (w.alloc (.cells #[.int .i64 p.fr, .int .i64 p.en, .int .i64 p.nd, .int .i64 q.fr, .int .i64 q.en, .int .i64 q.nd, .int .i64 r.fr, .int .i64 r.en, .int .i64 r.nd] 58)) (some ⟨g, 0, none⟩) 3 [p, q, r] := by
  subst hg
  refine ⟨Rd.new w #[.int .i64 p.fr, .int .i64 p.en, .int .i64 p.nd, .int .i64 q.fr, .int .i64 q.en, .int .i64 q.nd, .int .i64 r.fr, .int .i64 r.en, .int .i64 r.nd] 58 (0, 0) rfl, fun x hx => ?_⟩
  simp only [List.mem_cons, List.not_mem_nil, or_false] at hx
  rcases hx with rfl | rfl | rfl
  · exact fp
  · exact fq
  · exact fr
section
variable (w : World)
set_option maxRecDepth 100000 in
set_option maxHeartbeats 2000000 in
theorem alive_ : Calls Try.prog 18 #[] w fun e w' => e = .returned (.bool true) ∧ Below w.heap.size w w' := by
  have hb0 : Below w.heap.size w (w.alloc (.cells #[.int .i64 0, .int .i64 1, .int .i64 2] 3)) := (Below.refl w.heap.size w).alloc (Nat.le_refl _) _
  have hIs := Is.new w [0, 1, 2] (by intro z hz; unfold I64; simp only [List.mem_cons, List.not_mem_nil, or_false] at hz; omega) 3 rfl (C := #[.int .i64 0, .int .i64 1, .int .i64 2]) rfl (n := 3) rfl
  go_enter Try.func18, Try.ntmps18
  go_wp2_with fail
  refine (new_ _ 10 _ 3 3 [0, 1, 2] hIs (by omega) (by unfold I64; omega)).mono ?_
  rw [new_three]
  rintro e w1 ⟨A1, k1, c1, rfl, g1, hb1⟩
  have hB1 := below_step hb0 hb1 (by omega)
  have hmr := g1.mr
  simp only at hmr
  have hal := (Below.refl w1.heap.size w1).alloc (Nat.le_refl _) (.cells #[.int .i64 1, .int .i64 10, .slice A1 k1 c1] 26)
  have hm2 := hmr.below hal
  have hB2 := below_step hB1 hal (Nat.le_refl _)
  have hbk2 := Blk.new w1 26 #[.int .i64 1, .int .i64 10, .slice A1 k1 c1] rfl
  clear hIs g1 hb0 hb1 hmr
  simp only
  go_wp2_with fail
  generalize (w1.alloc (.cells #[.int .i64 1, .int .i64 10, .slice A1 k1 c1] 26)) = w2 at *
  refine (find_ _ ⟨1, 10, l3⟩ A1 k1 c1 hm2 6 (by unfold I64; omega)).mono ?_
  rw [find_three]
  rintro e w3 ⟨rfl, hb3⟩
  have hm3 := hm2.below hb3
  have hB3 := below_step hB2 hb3 (Nat.le_refl _)
  have hbk3 := hbk2.keep hb3
  clear hbk2 hm2 hb3
  obtain ⟨d0, d1, d2, -, -, -⟩ := cells3 hbk3
  have hps := ps_three (w := w3) (p := ⟨0, 4, 0⟩) (q := ⟨4, 7, 1⟩) (r := ⟨7, 10, 2⟩) ⟨by unfold I64; simp, by unfold I64; simp, by unfold I64; simp⟩ ⟨by unfold I64; simp, by unfold I64; simp, by unfold I64; simp⟩ ⟨by unfold I64; simp, by unfold I64; simp, by unfold I64; simp⟩ rfl
  have hal2 := (Below.refl w3.heap.size w3).alloc (Nat.le_refl _) (.cells #[.int .i64 0, .int .i64 4, .int .i64 0, .int .i64 4, .int .i64 7, .int .i64 1, .int .i64 7, .int .i64 10, .int .i64 2] 58)
  have hm4 := hm3.below hal2
  have hB4 := below_step hB3 hal2 (Nat.le_refl _)
  have hbk4 := hbk3.keep hal2
  have hk3 := hm3.len
  have hk1 : k1 ≤ 9223372036854775807 := Nat.le_trans hm3.le hm3.cap
  simp only
  clear hk3
  go_wp2_with fail
  generalize (w3.alloc (.cells #[.int .i64 0, .int .i64 4, .int .i64 0, .int .i64 4, .int .i64 7, .int .i64 1, .int .i64 7, .int .i64 10, .int .i64 2] 58)) = w4 at *
  refine (pieces_ _ _ _ k1 3 _ 3 l3 l3 hm4.ps hps hk1 (by omega)).mono ?_
  rw [sameB_refl]
  rintro e w5 ⟨j, rfl, rfl⟩
  obtain ⟨y0, y1, y2, -, -, -⟩ := cells3 hbk4
  clear d0 d1 d2 hps
  go_wp2_with fail
  refine (right_ _ ⟨1, 10, l3⟩ A1 k1 c1 (hm4.drewN j)).mono ?_
  rw [right_three]
  rintro e w6 ⟨rfl, hb6⟩
  go_wp2
  go_ret
  exact ⟨rfl, below_step (below_drewN hB4 j) hb6 (Nat.le_refl _)⟩
end
end Sma
end Go.Proofs.Ytncapionioeieaa
