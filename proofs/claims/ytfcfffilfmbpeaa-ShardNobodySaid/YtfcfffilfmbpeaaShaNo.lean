/- Proves ShardNobody of layer 12 (shard), for every act: a shard that nobody made answers an error; what was handed in, and what was answered, may be written over. -/
import Derived.Test.YtfcfffilfmbpeaaShaNp
set_option linter.all false
namespace Go.Proofs.Ytfcfffilfmbpeaa
open Go.ChangeShapes Go.WideShapes Go.ChangeAt Go.RowKit
namespace Sha
open Blo (vol fun_ GotN AnsN Dat FitB words_ dfE dfL)

def y1 : SS := ⟨3, [0, 5, 0], [0, 0, 0], [o5], [], false⟩
def y2 : SS := ⟨3, [0, 5, 0], [0, 5, 0], [], [(1, [0, 5, 0])], false⟩
theorem yve1 : doE (newS 3) o5 = 0 := by decide +kernel
theorem yvs1 : doS (newS 3) o5 = y1 := by unfold doS; rw [if_pos yve1]; rfl
theorem yve2 : snE y1 1 = 0 := by decide +kernel
theorem yvs2 : snS y1 1 = y2 := by unfold snS; rw [if_pos yve2]; rfl
theorem yvs4 : crS y2 [true] = y2 := rfl
theorem yvl1 : lookS y2 1 = [0, 5, 0] := by decide +kernel
theorem yvl0 : lookS y2 0 = [0, 0, 0] := by decide +kernel
theorem yvh1 : hasS y2 1 = true := by decide +kernel
theorem yvd1 : dfE [0, 0, 0] [0, 5, 0] = 0 := by decide +kernel
theorem yvd2 : dfL [0, 0, 0] [0, 5, 0] = [o5] := by decide +kernel
abbrev zS : Array Value := #[.pointer none, .int .i64 0, .pointer none, .slice none 0 0, .int .i64 0, .int .i64 0, .slice none 0 0, .map none, .slice none 0 0, .bool false]
theorem own_one {g o j n c : Nat} (h : (Value.slice (some ⟨g, o, none⟩) n c).ownBlock = some j) : g = j := by simpa [Value.ownBlock] using h
/-- The two that nobody made. -/
def noV (b : Nat) : Nat → Option Addr | 0 => none | _ => some ⟨b, 0, none⟩
theorem noV_no {w : World} {b : Nat} (hz : Blk w b 65 zS) (k : Nat) : NoSh w (noV b k) := by
  cases k with
  | zero => trivial
  | succ k => exact ⟨b, rfl, hz.cell (j := 0) rfl⟩
/-- What stands while the two are asked. -/
structure NoA (w wr : World) (a : Actn) (X : Option Addr) (m c : Nat) (K : Option Addr) (kn kc : Nat) : Prop where
  act : ∃ kd : Nat, kd < 256 ∧ Blk wr w.heap.size 34 (actC { a with kd := kd } X m c K kn kc)
  zero : Blk wr (w.heap.size + 1) 65 zS
  row : Blk wr (w.heap.size + 2) 23 #[.pointer none, .pointer (some ⟨w.heap.size + 1, 0, none⟩)]
  bel : Below w.heap.size w wr
section
variable (w : World)
set_option maxRecDepth 100000 in
set_option maxHeartbeats 16000000 in
theorem shardNobody_walk (a : Actn) (hkd : a.kd < 256) (X : Option Addr) (m c : Nat) (K : Option Addr) (kn kc : Nat) :
    Calls Try.prog 7 #[.agg (actC a X m c K kn kc)] w fun e w' => e = .returned (.bool true) ∧ Below w.heap.size w w' := by
  obtain ⟨w1, hw1⟩ : ∃ w1, w.alloc (.cells (actC a X m c K kn kc) 34) = w1 := ⟨_, rfl⟩
  have hs1 : w1.heap.size = w.heap.size + 1 := by rw [← hw1]; simp
  have hb1 : Below w.heap.size w w1 := by rw [← hw1]; exact (Below.refl _ _).alloc (Nat.le_refl _) _
  have ha1 : Blk w1 w.heap.size 34 (actC a X m c K kn kc) := by rw [← hw1]; exact Blk.new w _ _ rfl
  obtain ⟨w2, hw2⟩ : ∃ w2, w1.alloc (.cells zS 65) = w2 := ⟨_, rfl⟩
  have hs2 : w2.heap.size = w.heap.size + 2 := by rw [← hw2]; simp [hs1]
  have hb2 : Below w.heap.size w w2 := by rw [← hw2]; exact hb1.alloc hb1.size _
  have ha2 := ha1.keep (show Below w1.heap.size w1 w2 by rw [← hw2]; exact (Below.refl _ _).alloc (Nat.le_refl _) _)
  have hz2 : Blk w2 (w.heap.size + 1) 65 zS := by rw [← hw2]; exact Blk.new w1 _ _ hs1.symm
  obtain ⟨w3, hw3⟩ : ∃ w3, w2.alloc (.cells #[.pointer none, .pointer (some ⟨w.heap.size + 1, 0, none⟩)] 23) = w3 := ⟨_, rfl⟩
  have hs3 : w3.heap.size = w.heap.size + 3 := by rw [← hw3]; simp [hs2]
  have hb3 : Below w.heap.size w w3 := by rw [← hw3]; exact hb2.alloc hb2.size _
  have hb23 : Below w2.heap.size w2 w3 := by rw [← hw3]; exact (Below.refl _ _).alloc (Nat.le_refl _) _
  have hA3 : NoA w w3 a X m c K kn kc := ⟨⟨a.kd, hkd, ha2.keep hb23⟩, hz2.keep hb23, by rw [← hw3]; exact Blk.new w2 _ _ hs2.symm, hb3⟩
  clear ha1 ha2 hz2 hb1 hb2 hb23 hb3
  simp only [actC] at hw1
  simp only [actC]
  go_enter Try.func7, Try.ntmps7
  go_wp2_with fail
  go_loopw [28] (fun iv wr => ∃ k : Nat, k ≤ 2 ∧ iv = .int .i64 (k : Int) ∧ NoA w wr a X m c K kn kc) (fun iv _ => 2 - (intOf iv).toNat)
  case atStart => exact ⟨0, Nat.zero_le _, rfl, hA3⟩
  case round =>
    obtain ⟨k, hk, rfl, hA⟩ := hrel
    clear hw1 hw2 hw3 hs1 hs2 hs3 hA3
    obtain ⟨⟨kd, hkd2, har⟩, hzr, hpr, hb⟩ := hA
    by_cases hlt : k < 2
    · have hil : (k : Int) < 2 := by omega
      have hi0 : (0 : Int) ≤ (k : Int) := by omega
      have hcv : wr.cell? ⟨w.heap.size + 2, k, none⟩ = some (.pointer (noV (w.heap.size + 1) k)) := by
        match k, hlt with
        | 0, _ => exact hpr.cell (j := 0) rfl
        | 1, _ => exact hpr.cell (j := 1) rfl
      have hno := noV_no hzr k
      obtain ⟨v, hv⟩ : ∃ v, noV (w.heap.size + 1) k = v := ⟨_, rfl⟩
      rw [hv] at hcv hno
      simp only [actC] at har
      have x0 := har.cell (j := 0) (u := .int .u8 (kd : Int)) rfl
      have xz := har.free 0
      have h6 := Lib.hid (show ((kd % 6 : Nat) : Int) = (kd : Int) % 6 by omega)
      have h6l : kd % 6 < 6 := by omega
      have ha4 := har.setCell 0 (.int .u8 ((kd : Int) % 6))
      have y1 := har.cell (j := 1) (u := .int .i64 a.op.kind) rfl
      have y2 := har.cell (j := 2) (u := .int .i64 a.op.off) rfl
      have y3 := har.cell (j := 3) (u := .int .i64 a.op.len) rfl
      have y4 := har.cell (j := 4) (u := .slice X m c) rfl
      have y5 := har.cell (j := 5) (u := .int .i64 a.id) rfl
      have y6 := har.cell (j := 6) (u := .bool a.yes) rfl
      have y7 := har.cell (j := 7) (u := .slice K kn kc) rfl
      have hg4 := grown_setCell wr ⟨w.heap.size, 0, none⟩ (.int .u8 ((kd : Int) % 6))
      have hz4 := hzr.grown hg4 (fun e => by injection e with e; have e' : w.heap.size + 1 = w.heap.size := e; omega)
      have hp4 := hpr.grown hg4 (fun e => by injection e with e; have e' : w.heap.size + 2 = w.heap.size := e; omega)
      have hb4 := hb.setCell (p := ⟨w.heap.size, 0, none⟩) (Nat.le_refl _) (.int .u8 ((kd : Int) % 6))
      clear hpr
      go_wp2_with fail
      refine (sread_no wr v hno 0 0).mono ?_
      rintro e w' ⟨rfl, rfl⟩
      go_wp2_with fail
      refine (slook_no wr v hno 1 0 0).mono ?_
      rintro e w' ⟨rfl, rfl⟩
      go_wp2_with fail
      refine (since_no wr v hno 0 1).mono ?_
      rintro e w' ⟨rfl, rfl⟩
      clear hno
      go_wp2_with fail
      generalize hw4 : wr.setCell ⟨w.heap.size, 0, none⟩ (.int .u8 ((kd : Int) % 6)) = w4 at *
      have hsz4 : w4.heap.size = wr.heap.size := by rw [← hw4]; simp
      have hno4 : NoSh w4 v := by rw [← hv]; exact noV_no hz4 k
      have hd := does_no w4 v hno4 { a with kd := kd % 6 } X m c K kn kc h6l
      simp only [actC] at hd
      rw [h6.out] at hd
      clear x0 xz y1 y2 y3 y4 y5 y6 y7 hg4 hw4 har hzr hcv hb
      refine hd.mono ?_
      rintro e w5 ⟨rfl, hb5⟩
      have hno5 := hno4.below hb5
      have hA5 : NoA w w5 a X m c K kn kc := ⟨⟨kd % 6, by omega, by
        have q := ha4.keep hb5
        rw [← h6.out] at q
        exact q⟩, hz4.keep hb5, hp4.keep hb5, below_step hb4 hb5 (Nat.le_refl _)⟩
      clear ha4 hz4 hp4 hb4 hb5 hno4 hd h6
      go_wp2_with fail
      refine (sfrozen_no w5 v hno5).mono ?_
      rintro e w' ⟨rfl, rfl⟩
      go_wp2_with fail
      refine (ssnaps_no w5 v hno5).mono ?_
      rintro e w' ⟨rfl, rfl⟩
      go_wp2_with fail
      refine (sdirty_no w5 v hno5).mono ?_
      rintro e w' ⟨rfl, rfl⟩
      go_wp2_with fail
      refine (scrash_no w5 v hno5 _).mono ?_
      rintro e w' ⟨rfl, rfl⟩
      clear hno5
      go_wp2
      go_roundw
      case rel => exact ⟨k + 1, by omega, by go_num, hA5⟩
      case measure => simp [intOf]; omega
    · have hin : (2 : Int) ≤ (k : Int) := by omega
      obtain ⟨wo, hwo⟩ : ∃ wo : World, wo = wr := ⟨_, rfl⟩
      subst hwo
      clear har hzr hpr
      go_wp2_with fail
      refine (new_ wo 3 (by decide)).mono ?_
      rintro e w1 ⟨b, rfl, hS1, hB1⟩
      have hlow := hS1.ulow
      obtain ⟨U1, hU1⟩ : ∃ U1, neu wo w1 = U1 := ⟨_, rfl⟩
      rw [hU1] at hS1
      have hd1 : Dat (w1.alloc (.cells #[.int .u64 5] 48)) o5 (some ⟨w1.heap.size, 0, none⟩) 1 1 := Blo.dat_new rfl rfl rfl (by simp [o5]) (by decide) fit_o5
      have hb1 : Below w1.heap.size w1 (w1.alloc (.cells #[.int .u64 5] 48)) := (Below.refl _ _).alloc (Nat.le_refl _) _
      have hdo1 := do_ _ wo.heap.size b U1 (newS 3) (hS1.below hb1) o5 _ 1 1 hd1
      have hkd1 : Blk (w1.alloc (.cells #[.int .u64 5] 48)) w1.heap.size 48 #[.int .u64 5] := Blk.new w1 _ _ rfl
      have hnU1 : ¬ U1 w1.heap.size := fun e => by have := (hS1.ulow _ e).2; omega
      rw [yve1, yvs1] at hdo1
      have hBa := hB1.trans (hb1.mono hB1.size)
      simp only [o5] at hdo1
      clear hd1 hb1 hU1 hlow hS1
      go_wp2_with fail
      refine hdo1.mono ?_
      rintro e w2 ⟨rfl, hN2⟩
      have hkd2 := hN2.fr.blk _ _ _ hkd1 hnU1 fot_u64
      obtain ⟨D, hD⟩ : ∃ D, w1.heap.size = D := ⟨_, rfl⟩
      have hnU2 : ¬ gr U1 (w1.alloc (.cells #[.int .u64 5] 48)) w2 w1.heap.size := fun e => by
        rcases e with e | e
        · exact hnU1 e
        · have : (w1.alloc (.cells #[.int .u64 5] 48)).heap.size = w1.heap.size + 1 := by simp
          omega
      have hwD : wo.heap.size ≤ w1.heap.size := hB1.size
      rw [hD] at hkd2 hnU2 hwD
      obtain ⟨U2, hU2⟩ : ∃ U2, gr U1 (w1.alloc (.cells #[.int .u64 5] 48)) w2 = U2 := ⟨_, rfl⟩
      have hS2 := hN2.sh
      rw [hU2] at hS2 hnU2
      have hB2 := hBa.trans hN2.fr.bel
      have d0 := hkd2.cell (j := 0) (u := .int .u64 5) rfl
      have dz := hkd2.free 0
      have hg3 := grown_setCell w2 ⟨D, 0, none⟩ (.int .u64 6)
      have hS3 := hS2.turnedU hg3 hkd2 (by decide) (by decide) (by decide) hnU2
      have hB3 : Below wo.heap.size wo (w2.setCell ⟨D, 0, none⟩ (.int .u64 6)) := hB2.setCell (p := ⟨D, 0, none⟩) hwD _
      have hsn := snap_ _ wo.heap.size b U2 y1 1 (by unfold I64; decide) hS3
      rw [yve2, yvs2] at hsn
      rw [hD]
      clear hdo1 hN2 hS2 hBa hB2 hkd1 hkd2 hnU1 hnU2 hg3 hS3 hU2 hB1 hD
      go_wp2_with fail
      refine hsn.mono ?_
      rintro e w3 ⟨rfl, hN3⟩
      have hB3 := hB3.trans hN3.fr.bel
      obtain ⟨U3, hU3⟩ : ∃ U3, gr U2 (w2.setCell ⟨D, 0, none⟩ (.int .u64 6)) w3 = U3 := ⟨_, rfl⟩
      have hS3 := hN3.sh
      rw [hU3] at hS3
      have hrd := sread_ w3 wo.heap.size b U3 y2 hS3 0 3 ⟨by decide, .inl (by decide)⟩
      clear hsn hN3 hU3 d0 dz hwD
      go_wp2_with fail
      refine hrd.mono ?_
      rintro e w4 ⟨A4, m4, c4, rfl, hG4, hb4⟩
      have hS4 := hS3.below hb4
      have hB4 := hB3.trans (hb4.mono hB3.size)
      have hlk := slook_ w4 wo.heap.size b U3 y2 hS4 1 yvh1 0 3 ⟨by decide, .inl (by decide)⟩
      rw [yvl1] at hlk
      have hu3 : ∀ j, U3 j → j < w3.heap.size := fun j hj => (hS3.ulow j hj).2
      have hs34 := hb4.size
      have hsw3 := hB3.size
      have hl4 := hG4.own.lt
      clear hrd hB3 hS3
      go_wp2_with fail
      refine hlk.mono ?_
      rintro e w5 ⟨A5, m5, c5, rfl, hG5, hb5⟩
      have hS5 := hS4.below hb5
      have hB5 := hB4.trans (hb5.mono hB4.size)
      have hG45 := hG4.keep hb5
      have hsi := since_ w5 wo.heap.size b U3 y2 hS5 0 1 yvh1 (.inl rfl)
      rw [yvl1, yvl0, yvd1, yvd2] at hsi
      have hs45 := hb5.size
      have hl5 := hG5.own.lt
      clear hlk hS4 hB4 hG4 hb4
      go_wp2_with fail
      refine hsi.mono ?_
      rintro e w6 ⟨A6, m6, c6, rfl, hG6, hb6⟩
      have hS6 := hS5.below hb6
      have hB6 := hB5.trans (hb6.mono hB5.size)
      have hG46 := hG45.keep hb6
      have hG56 := hG5.keep hb6
      have hs56 := hb6.size
      have hs03 := hB6.size
      have hm4 : m4 = 3 := hG46.ns.len
      have hm5 : m5 = 3 := hG56.ns.len
      have hm6 : m6 = 1 := hG6.len
      subst hm4 hm5 hm6
      obtain ⟨L6, hO6, hL6⟩ := hG6.own
      obtain ⟨pv, rfl⟩ : ∃ pv, L6 = [(o5, pv)] := by
        rcases L6 with _ | ⟨⟨po, pv⟩, _ | ⟨q, L6⟩⟩
        · simp at hL6
        · simp only [List.map_cons, List.map_nil, List.cons.injEq, and_true] at hL6
          exact ⟨pv, by rw [hL6]⟩
        · simp at hL6
      have hdat : w6.ownsRow w5.heap.size 48 1 pv 1 (nvs [5]) := hO6.data (o5, pv) (by simp)
      have hr6 := rd_own hO6.row
      have e63 : (Blo.ovs [(o5, pv)])[3]? = some pv := rfl
      obtain ⟨g6, o6', e6, hc6⟩ := hr6.2 _ _ e63
      have hA6 : o6' = 0 := by
        rcases hO6.row.2 with ⟨e, _⟩ | ⟨g', cap', cur', e, _⟩
        · injection e with e1 _ _
          rw [e1] at e6; cases e6
        · injection e with e1 _ _
          rw [e1] at e6; injection e6 with e6; injection e6 with _ e6; exact e6.symm
      subst hA6
      subst e6
      rw [Nat.zero_add] at hc6
      obtain ⟨gd, capd, curd, rfl, -, -, hgd, hkd6, -, -⟩ := own_cells hdat (by omega)
      obtain ⟨g4, cap4, cur4, ev4, -, -, -, hk4, -, -⟩ := own_cells hG46.own (by omega)
      injection ev4 with ev4 _ _
      subst ev4
      obtain ⟨g5, cap5, cur5, ev5, -, -, -, hk5, -, -⟩ := own_cells hG56.own (by omega)
      injection ev5 with ev5 _ _
      subst ev5
      have hl4 := hl4 g4 rfl
      have hl5 := hl5 g5 rfl
      obtain ⟨p4, -, f4⟩ := Blo.own_at hG46.own (j := 1) (by omega)
      have p4 : w6.cell? ⟨g4, 1, none⟩ = some (.int .u64 5) := p4.trans rfl
      obtain ⟨w7, hw7⟩ : ∃ w7, w6.setCell ⟨g4, 1, none⟩ (.int .u64 7) = w7 := ⟨_, rfl⟩
      have hg7 : w6.grownBy w7 (some g4) := by rw [← hw7]; exact grown_setCell w6 ⟨g4, 1, none⟩ _
      have hS7 := hS6.turnedU hg7 hk4 (by decide) (by decide) (by decide) (fun e => by have := hu3 _ e; omega)
      have hB7 : Below wo.heap.size wo w7 := hB6.grown hg7 hs03 (fun j hj => by injection hj with hj; omega)
      have ho57 := own_grown hG56.own hg7 (fun j hj e => by have hj' := own_one hj; injection e with e; omega)
      have hk57 := hk5.grown hg7 (fun e => by injection e with e; omega)
      have hod7 := own_grown hdat hg7 (fun j hj e => by have hj' := own_one hj; injection e with e; omega)
      have hkd7 := hkd6.grown hg7 (fun e => by injection e with e; omega)
      obtain ⟨p5, -, f5⟩ := Blo.own_at ho57 (j := 1) (by omega)
      have p5 : w7.cell? ⟨g5, 1, none⟩ = some (.int .u64 5) := p5.trans rfl
      obtain ⟨w8, hw8⟩ : ∃ w8, w7.setCell ⟨g5, 1, none⟩ (.int .u64 7) = w8 := ⟨_, rfl⟩
      have hg8 : w7.grownBy w8 (some g5) := by rw [← hw8]; exact grown_setCell w7 ⟨g5, 1, none⟩ _
      have hS8 := hS7.turnedU hg8 hk57 (by decide) (by decide) (by decide) (fun e => by have := hu3 _ e; omega)
      have hB8 : Below wo.heap.size wo w8 := hB7.grown hg8 hB7.size (fun j hj => by injection hj with hj; omega)
      have hod8 := own_grown hod7 hg8 (fun j hj e => by have hj' := own_one hj; injection e with e; omega)
      have hkd8 := hkd7.grown hg8 (fun e => by injection e with e; omega)
      obtain ⟨pd, -, fd⟩ := Blo.own_at hod8 (j := 0) (by omega)
      have pd : w8.cell? ⟨gd, 0, none⟩ = some (.int .u64 5) := pd.trans rfl
      obtain ⟨w9, hw9⟩ : ∃ w9, w8.setCell ⟨gd, 0, none⟩ (.int .u64 7) = w9 := ⟨_, rfl⟩
      have hg9 : w8.grownBy w9 (some gd) := by rw [← hw9]; exact grown_setCell w8 ⟨gd, 0, none⟩ _
      have hS9 := hS8.turnedU hg9 hkd8 (by decide) (by decide) (by decide) (fun e => by have := hu3 _ e; omega)
      have hB9 : Below wo.heap.size wo w9 := hB8.grown hg9 hB8.size (fun j hj => by injection hj with hj; omega)
      have hbb : Below w9.heap.size w9 (w9.alloc (.cells #[.bool true] 4)) := (Below.refl _ _).alloc (Nat.le_refl _) _
      have hub : ∀ j, U3 j → j < w9.heap.size := fun j hj => (hS9.ulow j hj).2
      have hob : (w9.alloc (.cells #[.bool true] 4)).ownsRow 0 4 1 (.slice (some ⟨w9.heap.size, 0, none⟩) 1 1) 1 (bls [true]) := own_new w9 0 #[.bool true] 4 rfl (Nat.zero_le _) (by unfold maxLen; omega)
      have hcr := crash_ _ wo.heap.size b U3 y2 (hS9.below hbb) (some ⟨w9.heap.size, 0, none⟩) 1 1 [true] (fun w' hf => rd_own (own_fr hob hf (fun g hg e => Nat.lt_irrefl _ (own_one hg ▸ hub _ e)) (by unfold FoT; decide))) (by decide)
      rw [yvs4] at hcr
      have hB9b := hB9.trans (hbb.mono hB9.size)
      clear hsi hS5 hB5 hG45 hG5 hb5 hb6 hS6 hB6 hO6 hL6 hG6 hr6 e63 hdat hkd6 hk4 hk5 hG46 hG56 hg7 hS7 hB7 ho57 hk57 hod7 hkd7 hg8 hS8 hB8 hod8 hkd8 hg9 hS9 hB9 hob hub hbb hs34 hs45 hs56 hs03 hl4 hl5 hgd hu3
      go_wp2_with fail
      refine hcr.mono ?_
      rintro e w10 ⟨rfl, hN10⟩
      have hB10 := hB9b.trans hN10.fr.bel
      obtain ⟨U10, hS10⟩ : ∃ U10, Sh w10 wo.heap.size U10 b y2 := ⟨_, hN10.sh⟩
      have hrd := sread_ w10 wo.heap.size b U10 y2 hS10 1 1 ⟨by decide, .inl (by decide)⟩
      clear hcr hN10 hB9b hw7 hw8 hw9 p4 p5 pd f4 f5 fd hc6
      go_wp2_with fail
      refine hrd.mono ?_
      rintro e w11 ⟨A11, m11, c11, rfl, hG11, hb11⟩
      have hS11 := hS10.below hb11
      have hB11 := hB10.trans (hb11.mono hB10.size)
      have hlk := slook_ w11 wo.heap.size b U10 y2 hS11 1 yvh1 1 1 ⟨by decide, .inl (by decide)⟩
      rw [yvl1] at hlk
      clear hrd hS10 hB10 hb11
      go_wp2_with fail
      refine hlk.mono ?_
      rintro e w12 ⟨A12, m12, c12, rfl, hG12, hb12⟩
      have hB12 := hB11.trans (hb12.mono hB11.size)
      have hG112 := hG11.keep hb12
      have hm11 : m11 = 1 := hG112.ns.len
      have hm12 : m12 = 1 := hG12.ns.len
      subst hm11 hm12
      clear hlk hS11 hB11 hG11 hb12
      have hn1 : Ns (w12.alloc (.cells #[.int .u64 5] 48)) (some ⟨w12.heap.size, 0, none⟩) 1 [5] := Ns.new w12 [5] (by simp) _ rfl rfl rfl
      have hb13 : Below w12.heap.size w12 (w12.alloc (.cells #[.int .u64 5] 48)) := (Below.refl _ _).alloc (Nat.le_refl _) _
      have hw13 := words_ _ A11 (some ⟨w12.heap.size, 0, none⟩) 1 1 c11 1 [5] [5] (hG112.keep hb13).ns hn1 (by decide)
      rw [decide_eq_true (rfl : [5] = [5])] at hw13
      have hB13 := hB12.trans (hb13.mono hB12.size)
      have hG13 := hG12.keep hb13
      clear hn1 hG112 hG12 hB12 hb13
      go_wp2_with fail
      refine hw13.mono ?_
      rintro e w14 ⟨rfl, j14, rfl⟩
      generalize (w12.alloc (.cells #[.int .u64 5] 48)) = w13 at *
      have hG14 := hG13.keep (below_drewN (Below.refl w13.heap.size w13) j14)
      have hB14 := below_drewN hB13 j14
      obtain ⟨w14, hw14⟩ : ∃ w14, w13.drewN j14 = w14 := ⟨_, rfl⟩
      rw [hw14] at hG14 hB14
      rw [hw14]
      have hn2 : Ns (w14.alloc (.cells #[.int .u64 5] 48)) (some ⟨w14.heap.size, 0, none⟩) 1 [5] := Ns.new w14 [5] (by simp) _ rfl rfl rfl
      have hb15 : Below w14.heap.size w14 (w14.alloc (.cells #[.int .u64 5] 48)) := (Below.refl _ _).alloc (Nat.le_refl _) _
      have hw15 := words_ _ A12 (some ⟨w14.heap.size, 0, none⟩) 1 1 c12 1 [5] [5] (hG14.keep hb15).ns hn2 (by decide)
      rw [decide_eq_true (rfl : [5] = [5])] at hw15
      have hB15 := hB14.trans (hb15.mono hB14.size)
      clear hn2 hG14 hB14 hb15 hw13 hG13 hB13 hw14
      go_wp2_with fail
      refine hw15.mono ?_
      rintro e w16 ⟨rfl, j16, rfl⟩
      have hB16 := below_drewN hB15 j16
      obtain ⟨w17, hw17⟩ : ∃ w17, (w14.alloc (.cells #[.int .u64 5] 48)).drewN j16 = w17 := ⟨_, rfl⟩
      rw [hw17] at hB16
      rw [hw17]
      clear hw15 hB15 hw17
      go_wp2_with fail
      refine (alive_ w17).mono ?_
      rintro e w18 ⟨rfl, hb18⟩
      have hB18 := hb.trans ((hB16.trans (hb18.mono hB16.size)).mono hb.size)
      go_wp2
      go_ret
      exact ⟨rfl, hB18⟩
end
end Sha
open Sha

set_option maxRecDepth 100000 in
theorem shardNobody_lifted (os : Os) (started : os.Started) (H : Type) (enc : TypeId × Value → H) :
    ReturnsInHanded {} Try.checked os 7 .any (Rows.shardNobodySpec.pre6 enc Try.prog Try.f7 Rows.shardNobodyRow.domain false) (Rows.shardNobodySpec.post enc Try.prog Try.f7 false true false false) := by
  refine law_lifted (C := Try.checked) (tb := 4) own_ started (by kernel_rfl) Try.func7
    (ChangeSpec.witness6 (enc := enc) (C := Try.checked) false ⟨#[], #[.agg #[.int .u8 0, .int .i64 0, .int .i64 0, .int .i64 0, .slice none 0 0, .int .i64 0, .bool false, .slice none 0 0]], []⟩ 8 (by kernel_rfl) (by kernel_rfl) (by kernel_rfl) (by kernel_rfl))
    rfl rfl Try.underlying4 laidOut_ (by kernel_rfl) (fun ds h => by match ds, h with | [_], _ => rfl) ?_
  intro W base args ds p hval0 hA0 _ hsz0
  have hval : ∀ (j : Nat) t v, Try.f7.params[j]? = some t → args[j]? = some v → Value.okWide Try.prog W .any base t v := hval0
  have hA : DataW.TrodAll enc Try.prog W 0 (fun _ => true) true Try.f7.params.toList args.toList ds p := hA0
  have hsz : (DataW.weightsEach Try.prog Try.f7.params.toList ds).all (· ≤ reachBytes) = true := hsz0
  clear hval0 hA0 hsz0
  rw [Try.params7] at hA hval hsz
  obtain ⟨v0, d0, rfl, rfl, h0⟩ := trodAll_one hA
  obtain ⟨cs0, a0, rfl, r0, b0⟩ := arg_struct ops_act Try.underlying34 (hval 0 _ v0 rfl rfl) h0 (weight_at hsz (j := 0) rfl rfl)
  obtain ⟨X, m, c, K, kn, kc, rfl, ha⟩ := act_arr r0
  exact shardNobody_walk W _ ha.kd X m c K kn kc

/-- ShardNobody, for every input: the statement as it was given. -/
theorem shardNobody_holds : Rows.ShardNobodySaid :=
  OpenClaim.holds_of_wide 7 Try.f7 rfl rfl rfl rfl rfl rfl rfl ⟨rfl, rfl, rfl, rfl, rfl⟩ rfl rfl rfl rfl rfl (by kernel_rfl) Try.func7 (by kernel_rfl)
    (of_decide_eq_true (by kernel_rfl)) (by unfold Func.isWrapper; first | (rw [if_pos (by decide +kernel)]; kernel_rfl) | (rw [if_neg (by decide +kernel)]; exact ⟨rfl, rfl⟩))
    (fun os started H enc _ => shardNobody_lifted os started H enc)
end Go.Proofs.Ytfcfffilfmbpeaa
