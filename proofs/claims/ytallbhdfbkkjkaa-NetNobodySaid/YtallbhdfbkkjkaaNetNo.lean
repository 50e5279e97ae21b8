/- Layer 15: a bag that nobody made answers an error; bytes that were handed in, or taken, may be written over (NetNobody). No condition. -/
import Derived.Test.YtallbhdfbkkjkaaNetAr
import Derived.Test.YtallbhdfbkkjkaaNetV
import Derived.Test.YtallbhdfbkkjkaaSame
import Derived.Deep.DeepCutAuto
set_option linter.all false
namespace Go.Proofs.Ytallbhdfbkkjkaa
open Go.ChangeShapes Go.WideShapes Go.ChangeAt Go.RowKit
namespace Net
theorem xor255 (c : UInt8) : bits .xor .u8 (c.toNat : Int) 255 = ((c ^^^ 255).toNat : Int) := by
  have h := u8_xor_nat c.toNat 255 c.toNat_lt (by omega)
  rw [UInt8.toNat_xor]
  exact h
theorem own_at {w : World} {base n c : Nat} {e : TypeId} {A : Option Addr} {xs : List Value} (h : w.ownsRow base e 1 (.slice A n c) n xs) (hn : 0 < n) : ∃ g, A = some ⟨g, 0, none⟩ ∧ base ≤ g ∧ g < w.heap.size := by
  obtain ⟨g, cap, e1, h1, h2⟩ := h.form hn
  injection e1 with e1 _ _
  exact ⟨g, e1, h1, h2⟩
section
variable (w : World)
set_option maxRecDepth 100000 in
set_option maxHeartbeats 8000000 in
theorem nobody_walk (a : Act) (X : Option Addr) (n c : Nat) (h : Adt w a X n c) (A : Option Addr) (k d : Nat) (x : List UInt8) (hr : Bs w A k x) (hA : A = none → k = 0 ∧ d = 0) (hkd : k ≤ d) (hd : d ≤ 9223372036854775807) (hkb : k ≤ 140737488351300) :
    Calls Try.prog 8 #[.agg (aa a (.slice X n c)), .slice A k d] w fun e w' => e = .returned (.bool true) ∧ Below w.heap.size w w' := by
  obtain ⟨i0, hi0', hz0, hz1, hz2⟩ := info_parts info_u8
  have Hz := Lib.hid hz2
  have Hl := Lib.hid hr.len
  have Hr := Lib.hid hr
  clear hz2
  -- the act, the bag that nobody made, the two pointers
  have m1 := Blk.new w 48 (aa a (.slice X n c)) rfl
  obtain ⟨w1, hw1⟩ : ∃ w1, w.alloc (.cells (aa a (.slice X n c)) 48) = w1 := ⟨_, rfl⟩
  have hs1 : w1.heap.size = w.heap.size + 1 := by rw [← hw1]; simp
  have hb1 : Below w.heap.size w w1 := by rw [← hw1]; exact (Below.refl _ _).alloc (Nat.le_refl _) _
  rw [hw1] at m1
  have m2 : Blk (w1.alloc (.cells #[.pointer none, .slice none 0 0] 65)) (w.heap.size + 1) 65 #[.pointer none, .slice none 0 0] := Blk.new w1 _ _ hs1.symm
  obtain ⟨w2, hw2⟩ : ∃ w2, w1.alloc (.cells #[.pointer none, .slice none 0 0] 65) = w2 := ⟨_, rfl⟩
  have hs2 : w2.heap.size = w.heap.size + 2 := by rw [← hw2]; simp [hs1]
  have hb2 : Below w1.heap.size w1 w2 := by rw [← hw2]; exact (Below.refl _ _).alloc (Nat.le_refl _) _
  rw [hw2] at m2
  have m3 : Blk (w2.alloc (.cells #[.pointer none, .pointer (some ⟨w.heap.size + 1, 0, none⟩)] 41)) (w.heap.size + 2) 41 #[.pointer none, .pointer (some ⟨w.heap.size + 1, 0, none⟩)] := Blk.new w2 _ _ hs2.symm
  obtain ⟨w3, hw3⟩ : ∃ w3, w2.alloc (.cells #[.pointer none, .pointer (some ⟨w.heap.size + 1, 0, none⟩)] 41) = w3 := ⟨_, rfl⟩
  have hb3 : Below w2.heap.size w2 w3 := by rw [← hw3]; exact (Below.refl _ _).alloc (Nat.le_refl _) _
  rw [hw3] at m3
  have m1' := (m1.keep hb2).keep hb3
  have m2' := m2.keep hb3
  have hB3 := below_step (below_step hb1 hb2 (by omega)) hb3 (by omega)
  clear m1 m2 hb1 hb2 hb3
  go_enter Try.func8, Try.ntmps8
  go_wp2_with fail
  go_loopw [25] (fun iv wr => ∃ i : Nat, i ≤ 2 ∧ iv = .int .i64 (i : Int) ∧ Below w3.heap.size w3 wr) (fun iv _ => 2 - (intOf iv).toNat)
  case atStart => exact ⟨0, by omega, rfl, Below.refl _ _⟩
  case round =>
    obtain ⟨i, hi, rfl, hbr⟩ := hrel
    have n1 := m1'.keep hbr
    have n2 := m2'.keep hbr
    have n3 := m3.keep hbr
    have a1 := n1.cell (j := 1) (u := .int .i64 a.i) rfl
    have a2 := n1.cell (j := 2) (u := .int .i64 a.at_) rfl
    have a3 := n1.cell (j := 3) (u := .int .u8 (a.y.toNat : Int)) rfl
    have p0 := n3.cell (j := 0) (u := .pointer none) rfl
    have p1 := n3.cell (j := 1) (u := .pointer (some ⟨w.heap.size + 1, 0, none⟩)) rfl
    have hba : Below wr.heap.size wr (wr.alloc (.cells #[.slice A k d] 22)) := (Below.refl _ _).alloc (Nat.le_refl _) _
    have a1' := (hba.cell (cell_lt a1)).trans a1
    have a2' := (hba.cell (cell_lt a2)).trans a2
    have a3' := (hba.cell (cell_lt a3)).trans a3
    have n2' := n2.keep hba
    have hbr' := hbr.trans (hba.mono hbr.size)
    by_cases hi0 : i = 0
    · subst hi0
      clear n1 n3 m1' m2' m3 hB3 hba h hr
      go_wp2_with fail
      refine (btake_nil wr a.i).mono ?_
      rintro e w' ⟨rfl, rfl⟩
      go_wp2_with fail
      refine (bput_nil _ _ 1 1).mono ?_
      rintro e w' ⟨rfl, rfl⟩
      go_wp2_with fail
      refine (btwice_nil _ a.i).mono ?_
      rintro e w' ⟨rfl, rfl⟩
      go_wp2_with fail
      refine (bturn_nil _ a.i a.at_ a.y).mono ?_
      rintro e w' ⟨rfl, rfl⟩
      go_wp2_with fail
      refine (size_nil _).mono ?_
      rintro e w' ⟨rfl, rfl⟩
      go_wp2
      go_roundw
      case rel => exact ⟨1, by omega, by go_num, hbr'⟩
      case measure => simp [intOf]
    · by_cases hi1 : i = 1
      · subst hi1
        clear n1 n3 m1' m2' m3 hB3 hba h hr
        go_wp2_with fail
        refine (btake_zero wr _ _ n2 a.i).mono ?_
        rintro e w' ⟨rfl, rfl⟩
        go_wp2_with fail
        refine (bput_no _ _ _ n2' _ 1 1).mono ?_
        rintro e w' ⟨rfl, rfl⟩
        go_wp2_with fail
        refine (btwice_zero _ _ _ n2' a.i).mono ?_
        rintro e w' ⟨rfl, rfl⟩
        go_wp2_with fail
        refine (bturn_zero _ _ _ n2' a.i a.at_ a.y).mono ?_
        rintro e w' ⟨rfl, rfl⟩
        go_wp2_with fail
        refine (size_no _ _ _ n2').mono ?_
        rintro e w' ⟨rfl, rfl⟩
        go_wp2
        go_roundw
        case rel => exact ⟨2, by omega, by go_num, hbr'⟩
        case measure => simp [intOf]
      · obtain rfl : i = 2 := by omega
        have hB4 := hB3.trans (hbr.mono hB3.size)
        have hrr := hr.below hB4
        clear n1 n2 n3 m1' m2' m3 hB3 hba h a1 a2 a3 p0 p1 a1' a2' a3' n2' hbr' hbr hw1 hw2 hw3 hs1 hs2
        go_wp2_with fail
        refine (bnew_ wr).mono ?_
        rintro e w4 ⟨rfl, hG4, hb4, hs4⟩
        have hB5 := below_step hB4 hb4 (Nat.le_refl _)
        have hrr4 := hrr.below hb4
        obtain ⟨b, hb⟩ : ∃ b, wr.heap.size = b := ⟨_, rfl⟩
        rw [hb] at hG4 hs4 ⊢
        have hwb : w.heap.size ≤ b := by rw [← hb]; exact hB4.size
        have HB5 := Lib.hid hB5
        clear hB4 hb4 hb hrr hi0 hi1 hi hr
        -- own
        go_wp2_with (first
          | (at_builtin
             refine wpList_app _ rfl (.const (.slice none 0 0)) (.tmp 81) _ rfl (b + 1) 5 i0 (.int .u8 0) 1 1 Try.underlying22 hi0' hz0 hz1 Hz.out rfl Nat.one_pos (.slice none 0 0) 0 [] rfl (own_nil _ _ _ _) A k d (bvs x) rfl (fun h => (hA h).1) hrr4 (bvs_one x) (by unfold maxLen; omega) (by omega) (by omega) ?_
             intro v5 w5 hown5 hg5 hat5
             have hb5 : Below w4.heap.size w4 w5 := grown_none_below hg5
             obtain ⟨A5, c5, rfl, hc5, hm5, ha5⟩ := own_form hown5
             simp only [Nat.zero_add, List.nil_append] at hown5 hc5 ha5 ⊢))
        have hown5b := hown5.lt
        have hba : Below w5.heap.size w5 (w5.alloc (.cells #[.slice A5 k c5] 22)) := (Below.refl _ _).alloc (Nat.le_refl _) _
        have hma : Blk (w5.alloc (.cells #[.slice A5 k c5] 22)) w5.heap.size 22 #[.slice A5 k c5] := Blk.new w5 _ _ rfl
        have hGa := (hG4.keep hb5).keep hba
        have hxa := own_keep hown5 hba
        have hs5 := hb5.size
        have hsa : (w5.alloc (.cells #[.slice A5 k c5] 22)).heap.size = w5.heap.size + 1 := by simp
        have hBa := below_step (below_step HB5.out hb5 (Nat.le_refl _)) hba (Nat.le_refl _)
        unfold maxLen at hm5
        have hP := bput_ (w5.alloc (.cells #[.slice A5 k c5] 22)) b b _ [] hGa (some ⟨w5.heap.size, 0, none⟩) 1 1 [x] (fun w3 hf => by
          refine bss_one (blk_fu hma hf (fun e => e.elim (by omega) id)) (bs_own (own_fu hxa hf (fun q hq e => e.elim (fun e => by have := (hown5b q hq).1; omega) id))) hc5 (by omega)) (Nat.le_refl _) (by omega) (by have := Hl.out; simp; omega)
        refine hP.mono ?_
        rw [show putN [] [x] = 1 from rfl, show putS [] [x] = [⟨x, false⟩] from rfl]
        obtain ⟨wa, hwa⟩ : ∃ wa, w5.alloc (.cells #[.slice A5 k c5] 22) = wa := ⟨_, rfl⟩
        rw [hwa] at hsa hBa hxa
        rintro e w6 ⟨rfl, hG6, hF6⟩
        rw [hwa] at hG6 hF6
        have hown6 := own_fu hxa hF6 (fun q hq e => e.elim (fun e => by have := (hown5b q hq).1; omega) id)
        have hB6 : Below w.heap.size w w6 := hBa.trans (hF6.below (by omega) (fun j hj => hj.elim (fun e => by omega) (fun e => e.elim)))
        have hs6 := hF6.size
        clear hP hma hGa hxa hF6 hBa hG4 hb5 hba hg5 hat5 hwa
        go_wp2_with fail
        refine (twice_ w6 b b _ _ hG6 0).mono ?_
        rw [show twiE [(⟨x, false⟩ : Gr)] 0 = 0 from rfl, show twiS [(⟨x, false⟩ : Gr)] 0 = [⟨x, false⟩, ⟨x, false⟩] from rfl]
        rintro e w7 ⟨rfl, hG7, hF7⟩
        have hown7 := own_fu hown6 hF7 (fun q hq e => by have h1 := hown5b q hq; exact e.elim (fun e => by omega) (fun e => e.elim (fun e => e) (fun e => by omega)))
        have hB7 : Below w.heap.size w w7 := hB6.trans (hF7.below (by have := hB6.size; omega) (fun j hj => hj.elim (fun e => by omega) (fun e => e.elim (fun e => e.elim) (fun e => by omega))))
        have hs7 := hF7.size
        have HBG := Lib.hid (show Bg w7 b b (fun j => w5.heap.size < j ∧ j < w7.heap.size) [⟨x, false⟩, ⟨x, false⟩] from hG7.sub (fun j hj hlt => ⟨hj.elim (fun e => e.elim (fun e => e.elim) (fun e => by omega)) (fun e => by omega), hlt⟩) (fun e => by omega))
        have HOWN := Lib.hid hown7
        have HB := Lib.hid hB7
        have HU := Lib.hid (show ∀ g, (Value.slice A5 k c5).ownBlock = some g → ¬ (w5.heap.size < g ∧ g < w7.heap.size) ∧ g ≠ b from fun g hg => by have := hown5b g hg; omega)
        clear hG6 hF7 hG7 hown5 hown6 hown7 hB6 hB7
        go_wp2_with fail
        go_loopw [91] (fun iv wr => ∃ q : Nat, q ≤ k ∧ iv = .int .i64 (q : Int) ∧ Below w.heap.size w wr ∧ (∃ ys : List UInt8, wr.ownsRow (b + 1) 5 1 (.slice A5 k c5) k (bvs ys)) ∧ Bg wr b b (fun j => w5.heap.size < j ∧ j < w7.heap.size) [⟨x, false⟩, ⟨x, false⟩]) (fun iv _ => k - (intOf iv).toNat)
        case atStart => exact ⟨0, Nat.zero_le _, rfl, HB.out, ⟨x, HOWN.out⟩, HBG.out⟩
        case round =>
          obtain ⟨q, hq, rfl, hBr, ⟨ys, hown⟩, hGr⟩ := hrel
          by_cases hlt : q < k
          · have hqi : (q : Int) < (k : Int) := by omega
            have hq0 : (0 : Int) ≤ (q : Int) := by omega
            obtain ⟨gq, eq, hgq, hlq⟩ := own_at hown (by omega)
            have hUg := HU.out gq (by rw [eq]; rfl)
            subst eq
            have hyl : ys.length = k := by have := hown.1; rw [bvs_length] at this; omega
            have hky : q < ys.length := by omega
            have q1 : wr.cell? ⟨gq, q, none⟩ = some (.int .u8 (ys[q].toNat : Int)) := by
              rw [hown.cellAt q (by omega)]
              simp only [bvs, bv, List.getElem?_map, List.getElem?_eq_getElem hky]; rfl
            have q2 := hown.frozenAt q
            have q3 := xor255 ys[q]
            obtain ⟨hst, hgs⟩ := hown.stored q (bv (ys[q] ^^^ 255))
            rw [show (bvs ys).set q (bv (ys[q] ^^^ 255)) = bvs (ys.set q (ys[q] ^^^ 255)) by simp only [bvs, List.map_set]] at hst
            have Hst := Lib.hid hst
            have Hb := Lib.hid (hBr.grown hgs hBr.size (fun j e => by injection e with e; omega))
            have HG := Lib.hid (hGr.fu (Fu.ofGrown (S := fun j => j = gq) hgs (fun j e => by injection e with e; exact e.symm)) (fun j hj e => hUg.1 (e ▸ hj)) (fun e => hUg.2 e.symm))
            clear hst hgs hown hyl hBr hGr
            go_wp2
            go_roundw
            case rel => exact ⟨q + 1, by omega, by go_num, Hb.out, ⟨_, Hst.out⟩, HG.out⟩
            case measure => simp [intOf]; omega
          · obtain rfl : q = k := by omega
            clear HBG HOWN HB HU hown hrr4 hB5 hq
            have hbw := hGr.lt
            go_wp2_with fail
            refine (take_ wr b b _ _ hGr 0).mono ?_
            rintro e w8 ⟨v8, h8⟩
            rw [show takG [(⟨x, false⟩ : Gr), ⟨x, false⟩] 0 = ⟨x, false⟩ from rfl, show takE [(⟨x, false⟩ : Gr), ⟨x, false⟩] 0 = 0 from rfl, show takS [(⟨x, false⟩ : Gr), ⟨x, false⟩] 0 = [⟨x, false⟩] from rfl] at h8
            obtain ⟨rfl, hown8, hG8, hU8, hF8⟩ := h8
            obtain ⟨A8, c8, rfl, hc8, hm8, ha8⟩ := own_form hown8
            simp only at hown8 hc8 ha8 hG8 hU8 ⊢
            rw [← Hl.out] at hown8 hc8 ha8 hG8 hU8 ⊢
            unfold maxLen at hm8
            have hB8 : Below w.heap.size w w8 := hBr.trans (hF8.below hBr.size (fun j hj => hj.elim (fun e => by omega) (fun e => by omega)))
            have hS := same_ A A8 q d q c8 x x w8 (Hr.out.below hB8) (bs_own hown8) (fun h => (hA h).1) (fun h => (ha8 h).1)
            rw [beq_self_eq_true] at hS
            have HBG := Lib.hid hG8
            have HOWN := Lib.hid hown8
            have HB := Lib.hid hB8
            have HU := Lib.hid (show ∀ g, (Value.slice A8 q c8).ownBlock = some g → ¬ ((w5.heap.size < g ∧ g < w7.heap.size) ∧ (Value.slice A8 q c8).ownBlock ≠ some g) ∧ g ≠ b from fun g hg => ⟨fun e => e.2 hg, fun e => by have := hU8 g hg; omega⟩)
            have HS := Lib.hid hS
            clear hown8 hG8 hU8 hF8 hB8 hS hGr hBr
            go_wp2_with fail
            refine HS.out.mono ?_
            rintro e w9 ⟨rfl, rfl⟩
            go_wp2_with fail
            go_loopw [112] (fun iv wr => ∃ r : Nat, r ≤ q ∧ iv = .int .i64 (r : Int) ∧ Below w.heap.size w wr ∧ (∃ ys : List UInt8, wr.ownsRow b 5 1 (.slice A8 q c8) q (bvs ys)) ∧ Bg wr b b (fun j => (w5.heap.size < j ∧ j < w7.heap.size) ∧ (Value.slice A8 q c8).ownBlock ≠ some j) [⟨x, false⟩]) (fun iv _ => q - (intOf iv).toNat)
            case atStart => exact ⟨0, Nat.zero_le _, rfl, HB.out, ⟨x, HOWN.out⟩, HBG.out⟩
            case round =>
              obtain ⟨r, hq, rfl, hBr, ⟨ys, hown⟩, hGr⟩ := hrel
              by_cases hlt : r < q
              · have hqi : (r : Int) < (q : Int) := by omega
                have hq0 : (0 : Int) ≤ (r : Int) := by omega
                obtain ⟨gq, eq, hgq, hlq⟩ := own_at hown (by omega)
                have hUg := HU.out gq (by rw [eq]; rfl)
                subst eq
                have hyl : ys.length = q := by have := hown.1; rw [bvs_length] at this; omega
                have hky : r < ys.length := by omega
                have q1 : wr.cell? ⟨gq, r, none⟩ = some (.int .u8 (ys[r].toNat : Int)) := by
                  rw [hown.cellAt r (by omega)]
                  simp only [bvs, bv, List.getElem?_map, List.getElem?_eq_getElem hky]; rfl
                have q2 := hown.frozenAt r
                have q3 := xor255 ys[r]
                obtain ⟨hst, hgs⟩ := hown.stored r (bv (ys[r] ^^^ 255))
                rw [show (bvs ys).set r (bv (ys[r] ^^^ 255)) = bvs (ys.set r (ys[r] ^^^ 255)) by simp only [bvs, List.map_set]] at hst
                have Hst := Lib.hid hst
                have Hb := Lib.hid (hBr.grown hgs hBr.size (fun j e => by injection e with e; omega))
                have HG := Lib.hid (hGr.fu (Fu.ofGrown (S := fun j => j = gq) hgs (fun j e => by injection e with e; exact e.symm)) (fun j hj e => hUg.1 (e ▸ hj)) (fun e => hUg.2 e.symm))
                clear hst hgs hown hyl hBr hGr
                go_wp2
                go_roundw
                case rel => exact ⟨r + 1, by omega, by go_num, Hb.out, ⟨_, Hst.out⟩, HG.out⟩
                case measure => simp [intOf]; omega
              · obtain rfl : r = q := by omega
                clear HBG HOWN HB HU HS hown hq
                go_wp2_with fail
                refine (take_ wr b b _ _ hGr 0).mono ?_
                rintro e w11 ⟨v11, h11⟩
                rw [show takG [(⟨x, false⟩ : Gr)] 0 = ⟨x, false⟩ from rfl, show takE [(⟨x, false⟩ : Gr)] 0 = 0 from rfl, show takS [(⟨x, false⟩ : Gr)] 0 = [] from rfl] at h11
                obtain ⟨rfl, hown11, -, -, hF11⟩ := h11
                obtain ⟨A11, c11, rfl, hc11, hm11, ha11⟩ := own_form hown11
                simp only at hown11 hc11 ha11 ⊢
                rw [← Hl.out] at hown11 hc11 ha11 ⊢
                have hB11 : Below w.heap.size w w11 := hBr.trans (hF11.below hBr.size (fun j hj => hj.elim (fun e => by omega) (fun e => by omega)))
                have hS := same_ A A11 r d r c11 x x w11 (Hr.out.below hB11) (bs_own hown11) (fun h => (hA h).1) (fun h => (ha11 h).1)
                rw [beq_self_eq_true] at hS
                clear hown11 hF11 hBr hGr
                go_wp2_with fail
                refine hS.mono ?_
                rintro e w12 ⟨rfl, rfl⟩
                go_wp2_with fail
                refine (alive_ w11).mono ?_
                rintro e w13 ⟨rfl, hb13⟩
                go_wp2
                go_ret
                exact ⟨rfl, below_step hB11 hb13 (Nat.le_refl _)⟩
end
end Net
open Net

set_option maxRecDepth 100000 in
theorem netNobody_lifted (os : Os) (started : os.Started) (H : Type) (enc : TypeId × Value → H) :
    ReturnsInHanded {} Try.checked os 8 .any (Rows.netNobodySpec.pre6 enc Try.prog Try.f8 Rows.netNobodyRow.domain false) (Rows.netNobodySpec.post enc Try.prog Try.f8 false true false false) := by
  refine law_lifted (C := Try.checked) (tb := 4) own_ started (by kernel_rfl) Try.func8
    (ChangeSpec.witness6 (enc := enc) (C := Try.checked) false ⟨#[], #[.agg #[.int .u8 0, .int .i64 0, .int .i64 0, .int .u8 0, .slice none 0 0], .slice none 0 0], []⟩ 8 (by kernel_rfl) (by kernel_rfl) (by kernel_rfl) (by kernel_rfl))
    rfl rfl Try.underlying4 laidOut_ (by kernel_rfl) (fun ds h => by match ds, h with | [_, _], _ => rfl) ?_
  intro W base args ds p hval0 hA0 _ hsz0
  have hval : ∀ (j : Nat) t v, Try.f8.params[j]? = some t → args[j]? = some v → Value.okWide Try.prog W .any base t v := hval0
  have hA : DataW.TrodAll enc Try.prog W 0 (fun _ => true) true Try.f8.params.toList args.toList ds p := hA0
  have hsz : (DataW.weightsEach Try.prog Try.f8.params.toList ds).all (· ≤ reachBytes) = true := hsz0
  clear hval0 hA0 hsz0
  rw [Try.params8] at hA hval hsz
  obtain ⟨v0, v1, d0, d1, p0, p1, rfl, rfl, rfl, h0, h1⟩ := trodAll_two hA
  obtain ⟨cs0, a0, rfl, r0, b0⟩ := arg_struct ops_ac Try.underlying48 (hval 0 _ v0 rfl rfl) h0 (weight_at hsz (j := 0) rfl rfl)
  obtain ⟨A1, n1, c1, xs1, rfl, r1, b1⟩ := arg_slice ops_bytes Try.underlying22 (hval 1 _ v1 rfl rfl) h1 (weight_at hsz (j := 1) rfl rfl)
  obtain ⟨hb1, hn1, ha1, hc1⟩ := bs_shp r1
  exact by
    obtain ⟨X, n, c, rfl, hm⟩ := ac_arr r0
    exact nobody_walk W (toAc a0) X n c hm A1 n1 c1 xs1 hb1 ha1 hn1 (by omega) (by omega)

/-- NetNobody, for every input: the statement as it was given. -/
theorem netNobody_holds : Rows.NetNobodySaid :=
  OpenClaim.holds_of_wide 8 Try.f8 rfl rfl rfl rfl rfl rfl rfl ⟨rfl, rfl, rfl, rfl, rfl⟩ rfl rfl rfl rfl rfl (by kernel_rfl) Try.func8 (by kernel_rfl)
    (of_decide_eq_true (by kernel_rfl)) (by unfold Func.isWrapper; first | (rw [if_pos (by decide +kernel)]; kernel_rfl) | (rw [if_neg (by decide +kernel)]; exact ⟨rfl, rfl⟩))
    (fun os started H enc _ => netNobody_lifted os started H enc)
end Go.Proofs.Ytallbhdfbkkjkaa
