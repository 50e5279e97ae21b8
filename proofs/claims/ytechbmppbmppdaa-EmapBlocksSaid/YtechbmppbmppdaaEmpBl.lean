/- Proves EmapBlocks of layer 6 (emap), for every input, with no condition: behind a Put each block is as in the extent, or as it was; behind a Cut none of these is there, and all others are as they were. -/
import Derived.Test.YtechbmppbmppdaaEmpW
namespace Go.Proofs.Ytechbmppbmppdaa
open Go.ChangeShapes Go.WideShapes Go.ChangeAt Go.RowKit

theorem atR_right {l : List Ext} (h : rightB l = true) (i : Int) : atR l i = atL l i := by unfold atR; rw [h]; rfl
set_option maxRecDepth 100000 in
set_option maxHeartbeats 4000000 in
theorem emapBlocks_no (w : World) (A : Option Addr) (n c : Nat) (l : List Ext) (h : Es w A n l) (hn : n ≤ 9223372036854775807) (x : Ext) (fx : Fit x) (hbad : ¬ (rightB l = true ∧ x.may = true)) :
    Calls Try.prog 6 #[.slice A n c, .agg #[.int .i64 x.off, .int .i64 x.len, .int .i64 x.phys, .int .i64 x.birth]] w fun e w' => e = .returned (.bool true) ∧ Below w.heap.size w w' := by
  obtain ⟨fr, hfr⟩ : ∃ z, errOf (rightB l && rangeB x.off x.len) = z := ⟨_, rfl⟩
  have Hfr := Lib.hid hfr
  clear hfr
  have hac := Blk.new w 32 #[.int .i64 x.off, .int .i64 x.len, .int .i64 x.phys, .int .i64 x.birth] rfl
  have hba : Below w.heap.size w (w.alloc (.cells #[.int .i64 x.off, .int .i64 x.len, .int .i64 x.phys, .int .i64 x.birth] 32)) := (Below.refl _ _).alloc (Nat.le_refl _) _
  go_enter Try.func6, Try.ntmps6
  go_wp2_with fail
  generalize (w.alloc (.cells #[.int .i64 x.off, .int .i64 x.len, .int .i64 x.phys, .int .i64 x.birth] 32)) = w0 at *
  have h0 := h.below hba
  clear h
  refine (put_no w0 A n c l x h0 hn fx hbad).mono ?_
  rintro e w1 ⟨rfl, hb1⟩
  have d0 := (hac.keep hb1).cell (j := 0) (u := .int .i64 x.off) rfl
  have d1 := (hac.keep hb1).cell (j := 1) (u := .int .i64 x.len) rfl
  have d2 := (hac.keep hb1).cell (j := 2) (u := .int .i64 x.phys) rfl
  have d3 := (hac.keep hb1).cell (j := 3) (u := .int .i64 x.birth) rfl
  go_wp2_with fail
  refine (cut_ w1 A n c l (h0.below hb1) hn x.off x.len fx.off fx.len).mono ?_
  rw [Hfr.out]
  rintro e w2 ⟨A2, m2, c2, rfl, g2, hb2⟩
  have hB2 := below_step hb1 hb2 (Nat.le_refl _)
  clear d0 d1 d2 d3
  have h2 := h0.below hB2
  clear g2
  cases hr : rightB l with
  | false =>
    go_wp2_with fail
    refine (rright_ w2 A n c l h2 hn).mono ?_
    rw [hr]
    rintro e w3 ⟨rfl, hb3⟩
    go_wp2_with fail
    refine (alive_ _).mono ?_
    rintro e w6 ⟨rfl, hb6⟩
    go_wp2
    go_ret
    exact ⟨rfl, below_step hba (below_step (below_step hB2 hb3 (Nat.le_refl _)) hb6 (Nat.le_refl _)) (Nat.le_refl _)⟩
  | true =>
    have hm : x.may = false := by
      rw [Bool.eq_false_iff]; intro e; exact hbad ⟨hr, e⟩
    go_wp2_with fail
    refine (rright_ w2 A n c l h2 hn).mono ?_
    rw [hr]
    rintro e w3 ⟨rfl, hb3⟩
    have hB3 := below_step hB2 hb3 (Nat.le_refl _)
    have d0 := (hac.keep hB3).cell (j := 0) (u := .int .i64 x.off) rfl
    have d1 := (hac.keep hB3).cell (j := 1) (u := .int .i64 x.len) rfl
    have d2 := (hac.keep hB3).cell (j := 2) (u := .int .i64 x.phys) rfl
    have d3 := (hac.keep hB3).cell (j := 3) (u := .int .i64 x.birth) rfl
    go_wp2_with fail
    refine (rmay_ w3 x fx).mono ?_
    rw [hm]
    rintro e w4 ⟨rfl, hb4⟩
    go_wp2_with fail
    refine (alive_ _).mono ?_
    rintro e w6 ⟨rfl, hb6⟩
    go_wp2
    go_ret
    exact ⟨rfl, below_step hba (below_step (below_step hB3 hb4 (Nat.le_refl _)) hb6 (Nat.le_refl _)) (Nat.le_refl _)⟩
set_option maxRecDepth 100000 in
set_option maxHeartbeats 8000000 in
theorem emapBlocks_ok (w : World) (A : Option Addr) (n c : Nat) (l : List Ext) (h : Es w A n l) (hn : n ≤ 9223372036854775807) (x : Ext) (hr : rightB l = true) (hm : x.may = true) :
    Calls Try.prog 6 #[.slice A n c, .agg #[.int .i64 x.off, .int .i64 x.len, .int .i64 x.phys, .int .i64 x.birth]] w fun e w' => e = .returned (.bool true) ∧ Below w.heap.size w w' := by
  have hrg : rangeB x.off x.len = true := by
    have := may_len hm
    exact range_is.2 ⟨by omega, by omega, by omega⟩
  have hxl := may_len hm
  obtain ⟨hpr, hpa⟩ := put_is hr hm
  obtain ⟨hcr, hca⟩ := cut_is hr hrg
  have Hpr := Lib.hid hpr
  have Hcr := Lib.hid hcr
  have Hpa := Lib.hid hpa
  have Hca := Lib.hid hca
  clear hpa hca
  have hac := Blk.new w 32 #[.int .i64 x.off, .int .i64 x.len, .int .i64 x.phys, .int .i64 x.birth] rfl
  have hba : Below w.heap.size w (w.alloc (.cells #[.int .i64 x.off, .int .i64 x.len, .int .i64 x.phys, .int .i64 x.birth] 32)) := (Below.refl _ _).alloc (Nat.le_refl _) _
  have hwx : IntKind.i64.wrap (x.off + x.len) = x.off + x.len := by rw [IntKind.wrap_i64]; omega
  have hwy : IntKind.i64.wrap (x.off + x.len + 200) = x.off + x.len + 200 := by rw [IntKind.wrap_i64]; omega
  go_enter Try.func6, Try.ntmps6
  go_wp2_with fail
  generalize (w.alloc (.cells #[.int .i64 x.off, .int .i64 x.len, .int .i64 x.phys, .int .i64 x.birth] 32)) = w0 at *
  have h0 := h.below hba
  clear h
  refine (put_ok w0 A n c l x h0 hr hm).mono ?_
  rintro e w1 ⟨v1, m1, rfl, ho1, hb1⟩
  obtain ⟨A1, c1, rfl, g1⟩ := got_of ho1 (mays_right hpr)
  have d0 := (hac.keep hb1).cell (j := 0) (u := .int .i64 x.off) rfl
  have d1 := (hac.keep hb1).cell (j := 1) (u := .int .i64 x.len) rfl
  have d2 := (hac.keep hb1).cell (j := 2) (u := .int .i64 x.phys) rfl
  have d3 := (hac.keep hb1).cell (j := 3) (u := .int .i64 x.birth) rfl
  go_wp2_with fail
  refine (cut_ok w1 A n c l x.off x.len (h0.below hb1) hr hrg).mono ?_
  rintro e w2 ⟨v2, m2, rfl, ho2, hb2⟩
  obtain ⟨A2, c2, rfl, g2⟩ := got_of ho2 (mays_right hcr)
  have hB2 := below_step hb1 hb2 (Nat.le_refl _)
  have e1 := (g1.keep hb2).es
  have e2 := g2.es
  have hle1 := g1.le
  have hle2 := g2.le
  clear d0 d1 d2 d3 ho1 ho2 g1 g2 hb1 hb2 hpr hcr
  generalize putL l x = pl at *
  generalize cutL l x.off x.len = cl at *
  go_wp2_with fail
  go_loopw [51] (fun iv wr => ∃ k : Nat, k ≤ 1024 ∧ iv = .int .i64 (k : Int) ∧ Below w2.heap.size w2 wr) (fun iv _ => 1024 - (intOf iv).toNat)
  case atStart => exact ⟨0, Nat.zero_le _, rfl, Below.refl _ _⟩
  case round =>
    obtain ⟨k, hk, rfl, hb⟩ := hrel
    have hbb := below_step hB2 hb (Nat.le_refl _)
    by_cases hlt : k < 1024
    · have hil : (k : Int) < 1024 := by omega
      have hk0 : (0 : Int) ≤ (k : Int) := by omega
      obtain ⟨i, hik⟩ : ∃ i : Int, i = (k : Int) := ⟨_, rfl⟩
      have hi64 : I64 i := by unfold I64; omega
      obtain ⟨p, q, r, ht⟩ : ∃ p q r, atV (atR l i) = #[.int .i64 p, .int .i64 q, .bool r] := by
        cases atR l i with
        | none => exact ⟨_, _, _, rfl⟩
        | some v => exact ⟨_, _, _, rfl⟩
      rw [← hik] at hil hk0
      by_cases h1 : x.off ≤ i
      · by_cases h2 : i < x.off + x.len
        · have Ht := Lib.hid ht
          have Ha := Lib.hid (show atV (atR pl i) = #[.int .i64 (x.phys + i - x.off), .int .i64 x.birth, .bool true] by rw [atR_right Hpr.out, Hpa.out, if_pos ⟨h1, h2⟩]; rfl)
          have Hb := Lib.hid (show atV (atR cl i) = #[.int .i64 0, .int .i64 0, .bool false] by rw [atR_right Hcr.out, Hca.out, if_pos ⟨h1, h2⟩]; rfl)
          have hw2 : IntKind.i64.wrap (x.phys + i) = x.phys + i := by rw [IntKind.wrap_i64]; omega
          have hw3 : IntKind.i64.wrap (x.phys + i - x.off) = x.phys + i - x.off := by rw [IntKind.wrap_i64]; omega
          have hnb : ¬ (x.off + x.len + 200 < i) := by omega
          clear ht
          subst hik
          go_wp2_with fail
          refine (rat_ wr A n c l (k : Int) (h0.below hbb) hn hi64).mono ?_
          rw [Ht.out]
          rintro e w4 ⟨rfl, hb4⟩
          replace hb := below_step hb hb4 (Nat.le_refl _)
          go_wp2_with fail
          refine (rat_ w4 A1 m1 c1 _ (k : Int) (e1.below hb) hle1 hi64).mono ?_
          rw [Ha.out]
          rintro e w5 ⟨rfl, hb5⟩
          replace hb := below_step hb hb5 (Nat.le_refl _)
          go_wp2_with fail
          refine (rat_ w5 A2 m2 c2 _ (k : Int) (e2.below hb) hle2 hi64).mono ?_
          rw [Hb.out]
          rintro e w6 ⟨rfl, hb6⟩
          replace hb := below_step hb hb6 (Nat.le_refl _)
          clear hb4 hb5 hb6 hbb
          have hbb := below_step hB2 hb (Nat.le_refl _)
          have d0 := (hac.keep hbb).cell (j := 0) (u := .int .i64 x.off) rfl
          have d1 := (hac.keep hbb).cell (j := 1) (u := .int .i64 x.len) rfl
          have d2 := (hac.keep hbb).cell (j := 2) (u := .int .i64 x.phys) rfl
          have d3 := (hac.keep hbb).cell (j := 3) (u := .int .i64 x.birth) rfl
          go_wp2
          all_goals
            go_roundw
            case rel => exact ⟨k + 1, by omega, by go_num, hb⟩
            case measure => simp [intOf]; omega
        · have hout : ¬ (x.off ≤ i ∧ i < x.off + x.len) := fun e => h2 e.2
          have Ha := Lib.hid (show atV (atR pl i) = #[.int .i64 p, .int .i64 q, .bool r] by rw [atR_right Hpr.out, Hpa.out, if_neg hout, ← atR_right hr]; exact ht)
          have Hb := Lib.hid (show atV (atR cl i) = #[.int .i64 p, .int .i64 q, .bool r] by rw [atR_right Hcr.out, Hca.out, if_neg hout, ← atR_right hr]; exact ht)
          have Ht := Lib.hid ht
          clear ht hout
          by_cases h3 : 200 < i ∧ x.off + x.len + 200 < i
          · obtain ⟨h3a, h3b⟩ := h3
            subst hik
            go_wp2_with fail
            refine (rat_ wr A n c l (k : Int) (h0.below hbb) hn hi64).mono ?_
            rw [Ht.out]
            rintro e w4 ⟨rfl, hb4⟩
            replace hb := below_step hb hb4 (Nat.le_refl _)
            go_wp2_with fail
            refine (rat_ w4 A1 m1 c1 _ (k : Int) (e1.below hb) hle1 hi64).mono ?_
            rw [Ha.out]
            rintro e w5 ⟨rfl, hb5⟩
            replace hb := below_step hb hb5 (Nat.le_refl _)
            go_wp2_with fail
            refine (rat_ w5 A2 m2 c2 _ (k : Int) (e2.below hb) hle2 hi64).mono ?_
            rw [Hb.out]
            rintro e w6 ⟨rfl, hb6⟩
            replace hb := below_step hb hb6 (Nat.le_refl _)
            clear hb4 hb5 hb6 hbb
            have hbb := below_step hB2 hb (Nat.le_refl _)
            have d0 := (hac.keep hbb).cell (j := 0) (u := .int .i64 x.off) rfl
            have d1 := (hac.keep hbb).cell (j := 1) (u := .int .i64 x.len) rfl
            have d2 := (hac.keep hbb).cell (j := 2) (u := .int .i64 x.phys) rfl
            have d3 := (hac.keep hbb).cell (j := 3) (u := .int .i64 x.birth) rfl
            have h16 := e1.below hb
            have h26 := e2.below hb
            clear e1 e2
            go_wp2_with fail
            refine (rright_ _ A1 m1 c1 _ h16 hle1).mono ?_
            rw [Hpr.out]
            rintro e wx ⟨rfl, hbx⟩
            go_wp2_with fail
            refine (rright_ wx A2 m2 c2 _ (h26.below hbx) hle2).mono ?_
            rw [Hcr.out]
            rintro e wy ⟨rfl, hby⟩
            go_wp2_with fail
            refine (alive_ _).mono ?_
            rintro e wz ⟨rfl, hbz⟩
            go_wp2
            go_ret
            exact ⟨rfl, below_step hba (below_step (below_step (below_step hbb hbx (Nat.le_refl _)) hby (Nat.le_refl _)) hbz (Nat.le_refl _)) (Nat.le_refl _)⟩
          · by_cases h4 : 200 < i
            · have h5 : ¬ (x.off + x.len + 200 < i) := fun e => h3 ⟨h4, e⟩
              clear h3
              subst hik
              go_wp2_with fail
              refine (rat_ wr A n c l (k : Int) (h0.below hbb) hn hi64).mono ?_
              rw [Ht.out]
              rintro e w4 ⟨rfl, hb4⟩
              replace hb := below_step hb hb4 (Nat.le_refl _)
              go_wp2_with fail
              refine (rat_ w4 A1 m1 c1 _ (k : Int) (e1.below hb) hle1 hi64).mono ?_
              rw [Ha.out]
              rintro e w5 ⟨rfl, hb5⟩
              replace hb := below_step hb hb5 (Nat.le_refl _)
              go_wp2_with fail
              refine (rat_ w5 A2 m2 c2 _ (k : Int) (e2.below hb) hle2 hi64).mono ?_
              rw [Hb.out]
              rintro e w6 ⟨rfl, hb6⟩
              replace hb := below_step hb hb6 (Nat.le_refl _)
              clear hb4 hb5 hb6 hbb
              have hbb := below_step hB2 hb (Nat.le_refl _)
              have d0 := (hac.keep hbb).cell (j := 0) (u := .int .i64 x.off) rfl
              have d1 := (hac.keep hbb).cell (j := 1) (u := .int .i64 x.len) rfl
              have d2 := (hac.keep hbb).cell (j := 2) (u := .int .i64 x.phys) rfl
              have d3 := (hac.keep hbb).cell (j := 3) (u := .int .i64 x.birth) rfl
              go_wp2
              go_roundw
              case rel => exact ⟨k + 1, by omega, by go_num, hb⟩
              case measure => simp [intOf]; omega
            · clear h3
              subst hik
              go_wp2_with fail
              refine (rat_ wr A n c l (k : Int) (h0.below hbb) hn hi64).mono ?_
              rw [Ht.out]
              rintro e w4 ⟨rfl, hb4⟩
              replace hb := below_step hb hb4 (Nat.le_refl _)
              go_wp2_with fail
              refine (rat_ w4 A1 m1 c1 _ (k : Int) (e1.below hb) hle1 hi64).mono ?_
              rw [Ha.out]
              rintro e w5 ⟨rfl, hb5⟩
              replace hb := below_step hb hb5 (Nat.le_refl _)
              go_wp2_with fail
              refine (rat_ w5 A2 m2 c2 _ (k : Int) (e2.below hb) hle2 hi64).mono ?_
              rw [Hb.out]
              rintro e w6 ⟨rfl, hb6⟩
              replace hb := below_step hb hb6 (Nat.le_refl _)
              clear hb4 hb5 hb6 hbb
              have hbb := below_step hB2 hb (Nat.le_refl _)
              have d0 := (hac.keep hbb).cell (j := 0) (u := .int .i64 x.off) rfl
              have d1 := (hac.keep hbb).cell (j := 1) (u := .int .i64 x.len) rfl
              have d2 := (hac.keep hbb).cell (j := 2) (u := .int .i64 x.phys) rfl
              have d3 := (hac.keep hbb).cell (j := 3) (u := .int .i64 x.birth) rfl
              go_wp2
              go_roundw
              case rel => exact ⟨k + 1, by omega, by go_num, hb⟩
              case measure => simp [intOf]; omega
      · have hout : ¬ (x.off ≤ i ∧ i < x.off + x.len) := fun e => h1 e.1
        have Ha := Lib.hid (show atV (atR pl i) = #[.int .i64 p, .int .i64 q, .bool r] by rw [atR_right Hpr.out, Hpa.out, if_neg hout, ← atR_right hr]; exact ht)
        have Hb := Lib.hid (show atV (atR cl i) = #[.int .i64 p, .int .i64 q, .bool r] by rw [atR_right Hcr.out, Hca.out, if_neg hout, ← atR_right hr]; exact ht)
        have Ht := Lib.hid ht
        have h5 : ¬ (x.off + x.len + 200 < i) := by omega
        clear ht hout
        subst hik
        go_wp2_with fail
        refine (rat_ wr A n c l (k : Int) (h0.below hbb) hn hi64).mono ?_
        rw [Ht.out]
        rintro e w4 ⟨rfl, hb4⟩
        replace hb := below_step hb hb4 (Nat.le_refl _)
        go_wp2_with fail
        refine (rat_ w4 A1 m1 c1 _ (k : Int) (e1.below hb) hle1 hi64).mono ?_
        rw [Ha.out]
        rintro e w5 ⟨rfl, hb5⟩
        replace hb := below_step hb hb5 (Nat.le_refl _)
        go_wp2_with fail
        refine (rat_ w5 A2 m2 c2 _ (k : Int) (e2.below hb) hle2 hi64).mono ?_
        rw [Hb.out]
        rintro e w6 ⟨rfl, hb6⟩
        replace hb := below_step hb hb6 (Nat.le_refl _)
        clear hb4 hb5 hb6 hbb
        have hbb := below_step hB2 hb (Nat.le_refl _)
        have d0 := (hac.keep hbb).cell (j := 0) (u := .int .i64 x.off) rfl
        have d1 := (hac.keep hbb).cell (j := 1) (u := .int .i64 x.len) rfl
        have d2 := (hac.keep hbb).cell (j := 2) (u := .int .i64 x.phys) rfl
        have d3 := (hac.keep hbb).cell (j := 3) (u := .int .i64 x.birth) rfl
        go_wp2
        all_goals
          go_roundw
          case rel => exact ⟨k + 1, by omega, by go_num, hb⟩
          case measure => simp [intOf]; omega
    · have hin : (1024 : Int) ≤ (k : Int) := by omega
      have h16 := e1.below hb
      have h26 := e2.below hb
      clear e1 e2
      go_wp2_with fail
      refine (rright_ _ A1 m1 c1 _ h16 hle1).mono ?_
      rw [Hpr.out]
      rintro e wx ⟨rfl, hbx⟩
      go_wp2_with fail
      refine (rright_ wx A2 m2 c2 _ (h26.below hbx) hle2).mono ?_
      rw [Hcr.out]
      rintro e wy ⟨rfl, hby⟩
      go_wp2_with fail
      refine (alive_ _).mono ?_
      rintro e wz ⟨rfl, hbz⟩
      go_wp2
      go_ret
      exact ⟨rfl, below_step hba (below_step (below_step (below_step hbb hbx (Nat.le_refl _)) hby (Nat.le_refl _)) hbz (Nat.le_refl _)) (Nat.le_refl _)⟩
theorem emapBlocks_walk (w : World) (A : Option Addr) (n c : Nat) (l : List Ext) (h : Es w A n l) (hn : n ≤ 9223372036854775807) (x : Ext) (fx : Fit x) :
    Calls Try.prog 6 #[.slice A n c, .agg #[.int .i64 x.off, .int .i64 x.len, .int .i64 x.phys, .int .i64 x.birth]] w fun e w' => e = .returned (.bool true) ∧ Below w.heap.size w w' := by
  by_cases hb : rightB l = true ∧ x.may = true
  · exact emapBlocks_ok w A n c l h hn x hb.1 hb.2
  · exact emapBlocks_no w A n c l h hn x fx hb


set_option maxRecDepth 100000 in
theorem emapBlocks_lifted (os : Os) (started : os.Started) (H : Type) (enc : TypeId × Value → H) :
    ReturnsInHanded {} Try.checked os 6 .any (Rows.emapBlocksSpec.pre6 enc Try.prog Try.f6 Rows.emapBlocksRow.domain false) (Rows.emapBlocksSpec.post enc Try.prog Try.f6 false true false false) := by
  refine law_lifted (C := Try.checked) (tb := 4) own_ started (by kernel_rfl) Try.func6
    (ChangeSpec.witness6 (enc := enc) (C := Try.checked) false ⟨#[], #[.slice none 0 0, .agg #[.int .i64 0, .int .i64 0, .int .i64 0, .int .i64 0]], []⟩ 8 (by kernel_rfl) (by kernel_rfl) (by kernel_rfl) (by kernel_rfl))
    rfl rfl Try.underlying4 laidOut_ (by kernel_rfl) (fun ds h => by match ds, h with | [_, _], _ => rfl) ?_
  intro W base args ds p hval0 hA0 _ hsz0
  have hval : ∀ (j : Nat) t v, Try.f6.params[j]? = some t → args[j]? = some v → Value.okWide Try.prog W .any base t v := hval0
  have hA : DataW.TrodAll enc Try.prog W 0 (fun _ => true) true Try.f6.params.toList args.toList ds p := hA0
  have hsz : (DataW.weightsEach Try.prog Try.f6.params.toList ds).all (· ≤ reachBytes) = true := hsz0
  clear hval0 hA0 hsz0
  rw [Try.params6] at hA hval hsz
  obtain ⟨v0, v1, d0, d1, p0, p1, rfl, rfl, rfl, h0, h1⟩ := trodAll_two hA
  obtain ⟨A0, n0, c0, xs0, rfl, r0, b0⟩ := arg_slice ops_exts Try.underlying22 (hval 0 _ v0 rfl rfl) h0 (weight_at hsz (j := 0) rfl rfl)
  obtain ⟨cs1, a1, rfl, r1, b1⟩ := arg_struct ops_ext Try.underlying32 (hval 1 _ v1 rfl rfl) h1 (weight_at hsz (j := 1) rfl rfl)
  obtain ⟨es0, hn0, hc0, _⟩ := exts_es r0
  obtain ⟨rfl, fx⟩ := ext_arr r1
  exact emapBlocks_walk W A0 n0 c0 _ es0 (by omega) _ fx

/-- EmapBlocks, for every input: the statement as it was given. -/
theorem emapBlocks_holds : Rows.EmapBlocksSaid :=
  OpenClaim.holds_of_wide 6 Try.f6 rfl rfl rfl rfl rfl rfl rfl ⟨rfl, rfl, rfl, rfl, rfl⟩ rfl rfl rfl rfl rfl (by kernel_rfl) Try.func6 (by kernel_rfl)
    (of_decide_eq_true (by kernel_rfl)) (by unfold Func.isWrapper; first | (rw [if_pos (by decide +kernel)]; kernel_rfl) | (rw [if_neg (by decide +kernel)]; exact ⟨rfl, rfl⟩))
    (fun os started H enc _ => emapBlocks_lifted os started H enc)
end Go.Proofs.Ytechbmppbmppdaa
