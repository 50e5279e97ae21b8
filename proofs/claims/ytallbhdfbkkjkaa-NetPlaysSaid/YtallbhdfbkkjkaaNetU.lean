/- Layer 15: the laws' probe: of two datagrams the one that was not turned is unpacked. -/
import Derived.Test.YtallbhdfbkkjkaaNetT
set_option linter.all false
namespace Go.Proofs.Ytallbhdfbkkjkaa
open Go.RowKit
namespace Net
def mA : Ms := ⟨1, 2, 0, 0, 7, 0, [97, 98]⟩
theorem mA_may : MayM mA := by unfold MayM mA Str.far; decide
theorem turned_bad {x : List UInt8} (hx : x = msgB mA) : turE [⟨x, false⟩, ⟨x, false⟩] 1 3 1 = 0 ∧ turS [⟨x, false⟩, ⟨x, false⟩] 1 3 1 = [⟨x, false⟩, ⟨turnB x 3 1, true⟩] ∧ unE (turnB x 3 1) = 4 ∧ (turnB x 3 1).length = 62 := by
  have hl : x.length = 62 := by rw [hx, msgB_length]; rfl
  have hE : turE [⟨x, false⟩, ⟨x, false⟩] 1 3 1 = 0 := by
    rw [turn_at (by rfl)]
    show (if false = true then 10 else if x.length = 0 ∨ (1 : UInt8) = 0 then 1 else 0) = 0
    rw [hl]
    decide
  have ha : atN x.length 3 = 3 := by rw [hl]; decide
  have ht : turnB x 3 1 = x.set 3 (x[3]'(by omega) ^^^ 1) := by
    unfold turnB
    rw [ha, List.getD, List.getElem?_eq_getElem (by omega)]
    rfl
  refine ⟨hE, ?_, ?_, ?_⟩
  · unfold turS
    rw [if_pos hE]
    rfl
  · rw [ht]
    subst hx
    exact un_turned (k := 3) (by rw [hl]; decide) (by decide)
  · rw [ht, List.length_set, hl]
section
variable (w : World)
set_option maxRecDepth 100000 in
set_option maxHeartbeats 8000000 in
theorem alive_ : Calls Try.prog 16 #[] w fun e w' => e = .returned (.bool true) ∧ Below w.heap.size w w' := by
  obtain ⟨x, hx⟩ : ∃ x, msgB mA = x := ⟨_, rfl⟩
  obtain ⟨y, hy⟩ : ∃ y, turnB x 3 1 = y := ⟨_, rfl⟩
  have hxl : x.length = 62 := by rw [← hx, msgB_length]; rfl
  have hun := un_pack mA_may
  have hpk := pack_yes mA_may
  have htu := turned_bad hx.symm
  rw [hx] at hun hpk
  rw [hy] at htu
  have Hpk := Lib.hid hpk
  have Hun := Lib.hid hun
  have Htu := Lib.hid htu
  have Hxl := Lib.hid hxl
  have hM : Mdt (w.alloc (.cells #[.int .u8 97, .int .u8 98] 5 (2, 3))) mA (some ⟨w.heap.size, 0, none⟩) 2 2 :=
    ⟨Bs.new w [97, 98] _ (2, 3), (fun h => by cases h), Nat.le_refl _, by omega, by omega, mA_may.fits⟩
  have hba : Below w.heap.size w (w.alloc (.cells #[.int .u8 97, .int .u8 98] 5 (2, 3))) := (Below.refl _ _).alloc (Nat.le_refl _) _
  have kc := fun (w : World) (C : Array Value) (n c g : Nat) (hg : g = w.heap.size) => Joins.run_convert_bytes_const_at (P := Try.prog) w 22 5 C n c g hg Try.underlying22 Try.underlying5
  clear hun hpk htu hx hy hxl
  go_enter Try.func16, Try.ntmps16
  go_wp2_with fail
  refine (pack_ _ mA (some ⟨w.heap.size, 0, none⟩) 2 2 hM).mono ?_
  rw [Hpk.out.1, Hpk.out.2]
  rintro e w1 ⟨v1, rfl, hown1, hb1⟩
  have hB1 := below_step hba hb1 (Nat.le_refl _)
  obtain ⟨A1, c1, rfl, hc1, hm1, ha1⟩ := own_form hown1
  rw [Hxl.out] at hown1 hc1 ha1 ⊢
  unfold maxLen at hm1
  clear hM hba hb1
  go_wp2_with fail
  refine (bnew_ w1).mono ?_
  rintro e w2 ⟨rfl, hG2, hb2, hs2⟩
  have hB2 := below_step hB1 hb2 (Nat.le_refl _)
  have hsz1 := hB1.size
  have hown2 := own_keep hown1 hb2
  have hlt1 := hown1.lt
  obtain ⟨b, hb⟩ : ∃ b, w1.heap.size = b := ⟨_, rfl⟩
  rw [hb] at hG2 hs2 hlt1 ⊢
  clear hown1 hb2
  have hba : Below w2.heap.size w2 (w2.alloc (.cells #[.slice A1 62 c1] 22)) := (Below.refl _ _).alloc (Nat.le_refl _) _
  have hma : Blk (w2.alloc (.cells #[.slice A1 62 c1] 22)) (b + 1) 22 #[.slice A1 62 c1] := Blk.new w2 _ _ hs2.symm
  have hGa := hG2.keep hba
  have hxa := own_keep hown2 hba
  have hBa := below_step hB2 hba (Nat.le_refl _)
  have hsa : (w2.alloc (.cells #[.slice A1 62 c1] 22)).heap.size = w2.heap.size + 1 := by simp
  have hP := bput_ (w2.alloc (.cells #[.slice A1 62 c1] 22)) b b _ [] hGa (some ⟨b + 1, 0, none⟩) 1 1 [x] (fun w3 hf => by
    refine bss_one (blk_fu hma hf (fun e => e.elim (by omega) id)) (bs_own (own_fu hxa hf (fun q hq e => e.elim (fun e => by have := (hlt1 q hq).2; omega) id))) hc1 (by omega)) (Nat.le_refl _) (by omega) (by simp [Hxl.out])
  go_wp2_with fail
  clear hma hGa hxa hG2 hown2 hba hB2
  generalize (w2.alloc (.cells #[.slice A1 62 c1] 22)) = wa at *
  refine hP.mono ?_
  rw [show putN [] [x] = 1 from rfl, show putS [] [x] = [⟨x, false⟩] from rfl]
  rintro e w3 ⟨rfl, hG3, hF3⟩
  have hbw := hG3.lt
  have hB3 : Below w.heap.size w w3 := hBa.trans (hF3.below (by omega) (fun j hj => hj.elim (fun e => by omega) (fun e => e.elim)))
  clear hP hF3 hBa
  go_wp2_with fail
  refine (twice_ w3 b b _ _ hG3 0).mono ?_
  rw [show twiE [(⟨x, false⟩ : Gr)] 0 = 0 from rfl, show twiS [(⟨x, false⟩ : Gr)] 0 = [⟨x, false⟩, ⟨x, false⟩] from rfl]
  rintro e w4 ⟨rfl, hG4, hF4⟩
  have hB4 : Below w.heap.size w w4 := hB3.trans (hF4.below (by omega) (fun j hj => hj.elim (fun e => by omega) (fun e => e.elim (fun e => e.elim) (fun e => by omega))))
  have hs4 := hF4.size
  clear hG3 hF4 hB3
  go_wp2_with fail
  refine (turn_ w4 b b _ _ hG4 1 3 1 (by omega)).mono ?_
  rw [Htu.out.1, Htu.out.2.1]
  rintro e w5 ⟨rfl, hG5, hF5⟩
  have hB5 : Below w.heap.size w w5 := hB4.trans (hF5.below (by omega) (fun j hj => hj.elim (fun e => by omega) (fun e => e.elim (fun e => e.elim (fun e => e.elim) (fun e => by omega)) (fun e => by omega))))
  have hs5 := hF5.size
  clear hG4 hF5 hB4
  go_wp2_with fail
  refine (take_ w5 b b _ _ hG5 0).mono ?_
  rintro e w6 ⟨v6, h6⟩
  rw [show takG [(⟨x, false⟩ : Gr), ⟨y, true⟩] 0 = ⟨x, false⟩ from rfl, show takE [(⟨x, false⟩ : Gr), ⟨y, true⟩] 0 = 0 from rfl, show takS [(⟨x, false⟩ : Gr), ⟨y, true⟩] 0 = [⟨y, true⟩] from rfl] at h6
  obtain ⟨rfl, hown6, hG6, _, hF6⟩ := h6
  obtain ⟨A6, c6, rfl, hc6, hm6, ha6⟩ := own_form hown6
  simp only at hown6 hc6 ha6 hG6 ⊢
  rw [Hxl.out] at hown6 hc6 ha6 hG6 ⊢
  unfold maxLen at hm6
  have hB6 : Below w.heap.size w w6 := hB5.trans (hF6.below (by omega) (fun j hj => hj.elim (fun e => by omega) (fun e => e.elim (fun e => e.elim (fun e => e.elim) (fun e => by omega)) (fun e => by omega))))
  have hs6 := hF6.size
  have hG6 : Bg w6 b b (fun k => b < k ∧ k < w6.heap.size) [⟨y, true⟩] := hG6.sub (fun k hk hlt => ⟨hk.1.elim (fun e => e.elim (fun e => e.elim) (fun e => by omega)) (fun e => by omega), hlt⟩) (fun e => by omega)
  clear hG5 hF6 hB5
  go_wp2_with fail
  refine (unpack_ w6 A6 62 c6 x (bs_own hown6) ha6 hc6 (by omega) (by omega)).mono ?_
  rintro e w7 h7
  obtain ⟨X, n, c, rfl, hM7, hown7, hb7⟩ := h7.got (by rw [Hxl.out]; omega)
  rw [Hun.out.2] at hM7
  rw [Hun.out.2] at hown7
  rw [Hun.out.1, Hun.out.2]
  obtain rfl : n = 2 := hM7.len
  have hB7 := below_step hB6 hb7 (Nat.le_refl _)
  have hG7 := hG6.keep hb7
  have hs7 := hb7.size
  have hm8 : Blk (w7.alloc (.cells (ma mA (.slice X 2 c)) 24)) w7.heap.size 24 (ma mA (.slice X 2 c)) := Blk.new w7 _ _ rfl
  have hb8 : Below w7.heap.size w7 (w7.alloc (.cells (ma mA (.slice X 2 c)) 24)) := (Below.refl _ _).alloc (Nat.le_refl _) _
  have hG8 := hG7.keep hb8
  have hM8 := hM7.below hb8
  have hB8 := below_step hB7 hb8 (Nat.le_refl _)
  have hXlt : ∀ k, (Value.slice X 2 c).ownBlock = some k → w6.heap.size ≤ k := fun k hk => (hown7.lt k hk).1
  have hown8 := own_keep hown7 hb8
  have hs8 : (w7.alloc (.cells (ma mA (.slice X 2 c)) 24)).heap.size = w7.heap.size + 1 := by simp
  clear h7 hM7 hG6 hG7 hB6 hB7 hb7 hb8 hown6 hown7
  go_wp2_with fail
  obtain ⟨w8, hw8⟩ : ∃ w8, w7.alloc (.cells (ma mA (.slice X 2 c)) 24) = w8 := ⟨_, rfl⟩
  change Calls _ _ _ (w7.alloc (.cells (ma mA (.slice X 2 c)) 24)) _
  rw [hw8] at hm8 hG8 hM8 hB8 hown8 hs8 ⊢
  obtain ⟨gm, hgm⟩ : ∃ gm, w7.heap.size = gm := ⟨_, rfl⟩
  rw [hgm] at hm8 hs8 ⊢
  refine (take_ w8 b b _ _ hG8 0).mono ?_
  rintro e w9 ⟨v9, h9⟩
  rw [show takG [(⟨y, true⟩ : Gr)] 0 = ⟨y, true⟩ from rfl, show takE [(⟨y, true⟩ : Gr)] 0 = 0 from rfl, show takS [(⟨y, true⟩ : Gr)] 0 = [] from rfl] at h9
  obtain ⟨rfl, hown9, hG9, _, hF9⟩ := h9
  have hyl := Htu.out.2.2.2
  obtain ⟨A9, c9, rfl, hc9, hm9, ha9⟩ := own_form hown9
  simp only at hown9 hc9 ha9 ⊢
  rw [hyl] at hown9 hc9 ha9 ⊢
  unfold maxLen at hm9
  have hB9 : Below w.heap.size w w9 := hB8.trans (hF9.below (by omega) (fun j hj => hj.elim (fun e => by omega) (fun e => by omega)))
  have hm9 := blk_fu hm8 hF9 (fun e => e.elim (fun e => by omega) (fun e => by omega))
  have hown9' := own_fu hown8 hF9 (fun q hq e => by have := hXlt q hq; exact e.elim (fun e => by omega) (fun e => by omega))
  have hs9 := hF9.size
  clear hG8 hM8 hB8 hown8 hF9 hm8 hG9
  go_wp2_with fail
  refine (unpack_ w9 A9 62 c9 y (bs_own hown9) ha9 hc9 (by omega) (by omega)).mono ?_
  rintro e wA hA
  obtain ⟨X2, n2, k2, rfl, hMA, hownA, hbA⟩ := hA.got (by rw [hyl]; omega)
  have hvA : unV y = zM := unV_no (by rw [Htu.out.2.2.1]; decide)
  rw [hvA] at hMA
  rw [hvA, Htu.out.2.2.1]
  obtain rfl : n2 = 0 := hMA.len
  have hBA := below_step hB9 hbA (Nat.le_refl _)
  have hba : Below wA.heap.size wA (wA.alloc (.cells (ma zM (.slice X2 0 k2)) 24)) := (Below.refl _ _).alloc (Nat.le_refl _) _
  have hBB := below_step hBA hba (Nat.le_refl _)
  have hmB := (hm9.keep hbA).keep hba
  have hownB := own_keep (own_keep hown9' hbA) hba
  have hsA : (wA.alloc (.cells (ma zM (.slice X2 0 k2)) 24)).heap.size = wA.heap.size + 1 := by simp
  obtain ⟨_, _, _, _, q4, _, q6⟩ := ma_blk hmB
  have hsq : mA.sq = 7 := rfl
  rw [hsq] at q4
  have k1 := run_str (bs_own hownB) (fun h => by
    have := (own_form hownB); obtain ⟨_, _, e, _, _, h3⟩ := this
    injection e with e1 e2 e3
    exact (h3 (by rw [← e1]; exact h)).1) 22 9 5 Try.underlying22 Try.underlying5 Try.underlying9 c
  rw [show mA.d = [97, 98] from rfl] at k1
  clear hA hMA hownA hbA hB9 hBA hba hm9 hmB hown9 hown9' hownB hbw hs2 hs4 hs5 hs6 hs7 hs8 hs9 hw8 hgm
  go_wp2
  go_ret
  exact ⟨rfl, hBB⟩
end
end Net
end Go.Proofs.Ytallbhdfbkkjkaa
