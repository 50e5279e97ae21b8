/- Layer 12: alive; the statements' arguments. -/
import Derived.Test.YtfcfffilfmbpeaaShaN
set_option linter.all false
namespace Go.Proofs.Ytfcfffilfmbpeaa
open Go.ChangeShapes Go.WideShapes Go.ChangeAt Go.RowKit
namespace Sha
open Blo (vol fun_ GotN AnsN Dat FitB dfE dfL words_)

def o5 : BOp := ⟨1, 1, 0, [5]⟩
def o6 : BOp := ⟨1, 1, 0, [6]⟩
def z1 : SS := ⟨4, [0, 5, 0, 0], [0, 0, 0, 0], [o5], [], false⟩
def z2 : SS := ⟨4, [0, 5, 0, 0], [0, 5, 0, 0], [], [(1, [0, 5, 0, 0])], false⟩
def z3 : SS := ⟨4, [0, 6, 0, 0], [0, 5, 0, 0], [o6], [(1, [0, 5, 0, 0])], false⟩
theorem ave1 : doE (newS 4) o5 = 0 := by decide +kernel
theorem avs1 : doS (newS 4) o5 = z1 := by unfold doS; rw [if_pos ave1]; rfl
theorem ave2 : snE z1 1 = 0 := by decide +kernel
theorem avs2 : snS z1 1 = z2 := by unfold snS; rw [if_pos ave2]; rfl
theorem ave3 : doE z2 o6 = 0 := by decide +kernel
theorem avs3 : doS z2 o6 = z3 := by unfold doS; rw [if_pos ave3]; rfl
theorem avs4 : crS z3 [] = z2 := rfl
theorem avl1 : lookS z2 1 = [0, 5, 0, 0] := by decide +kernel
theorem avl0 : lookS z2 0 = [0, 0, 0, 0] := by decide +kernel
theorem avh1 : hasS z2 1 = true := by decide +kernel
theorem avd1 : dfE [0, 0, 0, 0] [0, 5, 0, 0] = 0 := by decide +kernel
theorem avd2 : (dfL [0, 0, 0, 0] [0, 5, 0, 0]).length = 1 := by decide +kernel
theorem fit_o5 : FitB o5 := ⟨by unfold Blo.I64 o5; decide, by unfold Blo.I64 o5; decide, by unfold Blo.I64 o5; decide⟩
theorem fit_o6 : FitB o6 := ⟨by unfold Blo.I64 o6; decide, by unfold Blo.I64 o6; decide, by unfold Blo.I64 o6; decide⟩
section
variable (w : World)
set_option maxRecDepth 100000 in
set_option maxHeartbeats 4000000 in
theorem alive_ : Calls Try.prog 9 #[] w fun e w' => e = .returned (.bool true) ∧ Below w.heap.size w w' := by
  go_enter Try.func9, Try.ntmps9
  go_wp2_with fail
  refine (new_ w 4 (by decide)).mono ?_
  rintro e w1 ⟨b, rfl, hS1, hB1⟩
  obtain ⟨U1, hS1⟩ : ∃ U1, Sh w1 w.heap.size U1 b (newS 4) := ⟨_, hS1⟩
  have hd1 : Dat (w1.alloc (.cells #[.int .u64 5] 48)) o5 (some ⟨w1.heap.size, 0, none⟩) 1 1 := Blo.dat_new rfl rfl rfl (by simp [o5]) (by decide) fit_o5
  have hb1 : Below w1.heap.size w1 (w1.alloc (.cells #[.int .u64 5] 48)) := (Below.refl _ _).alloc (Nat.le_refl _) _
  have hdo1 := do_ _ w.heap.size b U1 (newS 4) (hS1.below hb1) o5 _ 1 1 hd1
  rw [ave1, avs1] at hdo1
  have hBa := hB1.trans (hb1.mono hB1.size)
  simp only [o5] at hdo1
  clear hS1 hd1 hb1
  go_wp2_with fail
  refine hdo1.mono ?_
  rintro e w2 ⟨rfl, hN2⟩
  obtain ⟨U2, hS2⟩ : ∃ U2, Sh w2 w.heap.size U2 b z1 := ⟨_, hN2.sh⟩
  have hB2 := hBa.trans hN2.fr.bel
  have hsn := snap_ w2 w.heap.size b U2 z1 1 (by unfold I64; decide) hS2
  rw [ave2, avs2] at hsn
  clear hdo1 hN2 hS2 hBa
  go_wp2_with fail
  refine hsn.mono ?_
  rintro e w3 ⟨rfl, hN3⟩
  obtain ⟨U3, hS3⟩ : ∃ U3, Sh w3 w.heap.size U3 b z2 := ⟨_, hN3.sh⟩
  have hB3 := hB2.trans hN3.fr.bel
  have hd3 : Dat (w3.alloc (.cells #[.int .u64 6] 48)) o6 (some ⟨w3.heap.size, 0, none⟩) 1 1 := Blo.dat_new rfl rfl rfl (by simp [o6]) (by decide) fit_o6
  have hb3 : Below w3.heap.size w3 (w3.alloc (.cells #[.int .u64 6] 48)) := (Below.refl _ _).alloc (Nat.le_refl _) _
  have hdo3 := do_ _ w.heap.size b U3 z2 (hS3.below hb3) o6 _ 1 1 hd3
  rw [ave3, avs3] at hdo3
  have hBb := hB3.trans (hb3.mono hB3.size)
  simp only [o6] at hdo3
  clear hsn hN3 hS3 hd3 hb3 hB2 hB3
  go_wp2_with fail
  refine hdo3.mono ?_
  rintro e w4 ⟨rfl, hN4⟩
  obtain ⟨U4, hS4⟩ : ∃ U4, Sh w4 w.heap.size U4 b z3 := ⟨_, hN4.sh⟩
  have hB4 := hBb.trans hN4.fr.bel
  have hcr := crash_ w4 w.heap.size b U4 z3 hS4 none 0 0 [] (fun _ _ => Rd.nil) (by decide)
  rw [avs4] at hcr
  clear hdo3 hN4 hS4 hBb
  go_wp2_with fail
  refine hcr.mono ?_
  rintro e w5 ⟨rfl, hN5⟩
  obtain ⟨U5, hS5⟩ : ∃ U5, Sh w5 w.heap.size U5 b z2 := ⟨_, hN5.sh⟩
  have hB5 := hB4.trans hN5.fr.bel
  have hrd := sread_ w5 w.heap.size b U5 z2 hS5 1 1 ⟨by decide, .inl (by decide)⟩
  clear hcr hN5 hB4
  go_wp2_with fail
  refine hrd.mono ?_
  rintro e w6 ⟨A6, m6, c6, rfl, hG6, hb6⟩
  have hS6 := hS5.below hb6
  have hB6 := hB5.trans (hb6.mono hB5.size)
  have hlk := slook_ w6 w.heap.size b U5 z2 hS6 1 avh1 0 4 ⟨by decide, .inl (by decide)⟩
  rw [avl1] at hlk
  clear hrd hS5 hB5
  go_wp2_with fail
  refine hlk.mono ?_
  rintro e w7 ⟨A7, m7, c7, rfl, hG7, hb7⟩
  have hS7 := hS6.below hb7
  have hB7 := hB6.trans (hb7.mono hB6.size)
  have hG67 := hG6.keep hb7
  have hsi := since_ w7 w.heap.size b U5 z2 hS7 0 1 avh1 (.inl rfl)
  rw [avl1, avl0, avd1] at hsi
  clear hlk hS6 hB6 hG6 hb6
  go_wp2_with fail
  refine hsi.mono ?_
  rintro e w8 ⟨A8, m8, c8, rfl, hG8, hb8⟩
  have hB8 := hB7.trans (hb8.mono hB7.size)
  have hG68 := hG67.keep hb8
  have hG78 := hG7.keep hb8
  have hm8 : m8 = 1 := by rw [hG8.len]; exact avd2
  subst hm8
  clear hsi hS7 hB7 hG67 hG7 hG8 hb7 hb8
  have hn1 : Ns (w8.alloc (.cells #[.int .u64 5] 48)) (some ⟨w8.heap.size, 0, none⟩) 1 [5] := Ns.new w8 [5] (by simp) _ rfl rfl rfl
  have hb9 : Below w8.heap.size w8 (w8.alloc (.cells #[.int .u64 5] 48)) := (Below.refl _ _).alloc (Nat.le_refl _) _
  have hm6 : m6 = 1 := hG68.ns.len
  subst hm6
  have hw9 := words_ _ A6 (some ⟨w8.heap.size, 0, none⟩) 1 1 c6 1 [5] [5] (hG68.keep hb9).ns hn1 (by decide)
  rw [decide_eq_true (rfl : [5] = [5])] at hw9
  have hB9 := hB8.trans (hb9.mono hB8.size)
  have hG79 := hG78.keep hb9
  clear hn1 hG68 hG78 hB8 hb9
  go_wp2_with fail
  refine hw9.mono ?_
  rintro e w10 ⟨rfl, j10, rfl⟩
  generalize (w8.alloc (.cells #[.int .u64 5] 48)) = w9 at *
  have hG7a : GotN (w9.drewN j10) w6.heap.size A7 m7 c7 [0, 5, 0, 0] := hG79.keep (below_drewN (Below.refl _ _) j10)
  have hB10 := below_drewN hB9 j10
  clear hw9 hG79 hB9
  generalize w9.drewN j10 = w11 at *
  have hn2 : Ns (w11.alloc (.cells #[.int .u64 0, .int .u64 5, .int .u64 0, .int .u64 0] 48)) (some ⟨w11.heap.size, 0, none⟩) 4 [0, 5, 0, 0] := Ns.new w11 [0, 5, 0, 0] (by simp) _ rfl rfl rfl
  have hb11 : Below w11.heap.size w11 (w11.alloc (.cells #[.int .u64 0, .int .u64 5, .int .u64 0, .int .u64 0] 48)) := (Below.refl _ _).alloc (Nat.le_refl _) _
  have hm7 : m7 = 4 := hG7a.ns.len
  subst hm7
  have hw12 := words_ _ A7 (some ⟨w11.heap.size, 0, none⟩) 4 4 c7 4 [0, 5, 0, 0] [0, 5, 0, 0] (hG7a.keep hb11).ns hn2 (by decide)
  rw [decide_eq_true (rfl : [0, 5, 0, 0] = [0, 5, 0, 0])] at hw12
  have hB12 := hB10.trans (hb11.mono hB10.size)
  clear hn2 hG7a hB10 hb11
  go_wp2_with fail
  refine hw12.mono ?_
  rintro e w13 ⟨rfl, j13, rfl⟩
  go_wp2
  go_ret
  exact ⟨rfl, below_drewN hB12 j13⟩
end
end Sha
end Go.Proofs.Ytfcfffilfmbpeaa
