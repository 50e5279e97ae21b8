/- Proves PackStays of layer 2 (numbers and parts), for every input, with no condition: behind a fault nothing is got, and the place and the first fault stay. -/
import Derived.Test.YtimppkddpfhceaaPackL
import Derived.Test.YtimppkddpfhceaaPackN
import Derived.Test.YtimppkddpfhceaaStab
import Derived.Deep.DeepCutAuto
import Derived.Deep.CutBlock
namespace Go.Proofs.Ytimppkddpfhceaa
open Go.ChangeShapes Go.WideShapes Go.ChangeAt Go.RowKit

/-- One call: its kind, and the most. -/
def actShp : Shp (UInt8 × Int × Unit) := Shp.agg (Shp.pair Shp.u8 (Shp.pair (Shp.int .i64 (-9223372036854775808) 9223372036854775807) Shp.unit))
theorem acts_at {w : World} {A : Option Addr} {n c : Nat} {l : List (UInt8 × Int × Unit)} (h : (Shp.slice actShp 16).R w [.slice A n c] l) {k : Nat} (hk : k < n) :
    ∃ b o, A = some ⟨b, o, none⟩ ∧ ∃ hx : k < l.length, w.cell? ⟨b, o + k * 2, none⟩ = some (.int .u8 (l[k].1.toNat : Int)) ∧ w.cell? ⟨b, o + k * 2 + 1, none⟩ = some (.int .i64 l[k].2.1) ∧ -9223372036854775808 ≤ l[k].2.1 ∧ l[k].2.1 ≤ 9223372036854775807 := by
  obtain ⟨A', c', e, h1, h2, h3, h4, h5⟩ := h
  simp only [List.cons.injEq, Value.slice.injEq, and_true] at e
  obtain ⟨rfl, rfl, rfl⟩ := e
  obtain ⟨b, o, vs, rfl, hl, hc, hr⟩ := h5 k hk
  obtain ⟨c1, c2, rfl, hl1, hr1, c3, c4, rfl, hl3, ⟨hr3, hr4⟩, hr5⟩ := hr
  have hr1 : c1 = [.int .u8 (l[k].1.toNat : Int)] := hr1
  have hr5 : c4 = [] := hr5
  subst hr1 hr3 hr5
  refine ⟨b, o, rfl, hk, ?_, ?_, hr4⟩
  · have := hc 0 _ rfl
    simpa [actShp, Shp.agg, Shp.pair, Shp.u8, Shp.int, Shp.unit] using this
  · have := hc 1 _ rfl
    simpa [actShp, Shp.agg, Shp.pair, Shp.u8, Shp.int, Shp.unit] using this

/-- What one call has come to: what it got, and where the Reader stands. -/
def StayInv (w : World) (br : Nat) (xs : List UInt8) (s : RS) (gf : Nat) (n k p : Value) (wc : World) : Prop :=
  ∃ (s' : RS) (q j : Nat) (A : Option Addr) (ln c : Nat), n = .int .u64 (q : Int) ∧ k = .int .i64 (j : Int) ∧ p = .slice A ln c ∧ Rs wc br xs s' ∧ s.p ≤ s'.p ∧ s'.p ≤ xs.length ∧ Below w.heap.size w wc ∧
    Blk wc gf 42 #[.int .i64 (s.e : Int), .int .i64 (s.f : Int)] ∧ (s.e ≠ 0 → q = 0 ∧ j = 0 ∧ ln = 0 ∧ s' = s)

set_option maxRecDepth 100000 in
set_option maxHeartbeats 4000000 in
theorem packStays_walk (A B : Option Addr) (n c m d : Nat) (xs : List UInt8) (l : List (UInt8 × Int × Unit)) (w : World) (hx : Bs w A n xs) (hA : A = none → n = 0 ∧ c = 0) (hnc : n ≤ c) (hc : c ≤ 140737488351232)
    (hl : (Shp.slice actShp 16).R w [.slice B m d] l) (hmd : m ≤ d) (hd : d ≤ 9223372036854775807) :
    Calls Try.prog 6 #[.slice A n c, .slice B m d] w fun e w' => e = .returned (.bool true) ∧ Below w.heap.size w w' := by
  have Hn := Lib.hid hx.len
  go_enter Try.func6, Try.ntmps6
  go_wp2_with fail
  refine (new_ _ _ _ xs _ hx hA hnc (by omega) (by omega)).mono ?_
  rintro e w1 ⟨br, rfl, hbr, hr1, hb1⟩
  go_wp2_with fail
  refine (alive_ _).mono ?_
  rintro e w2 ⟨rfl, hb2⟩
  have hr2 := Rs.below hr1 hb2
  have hB2 : Below w.heap.size w w2 := hb1.trans (hb2.mono hb1.size)
  clear hb1 hb2 hr1
  go_wp2_with fail
  go_loopw [23] (fun i wr => ∃ (k : Nat) (s : RS), k ≤ m ∧ i = .int .i64 k ∧ Rs wr br xs s ∧ s.p ≤ xs.length ∧ Below w.heap.size w wr) (fun i _ => m - (intOf i).toNat)
  case atStart => exact ⟨0, ⟨0, 0, 0⟩, Nat.zero_le _, rfl, hr2, Nat.zero_le _, hB2⟩
  case round =>
    obtain ⟨k, s, hk, rfl, hr, hp, hb⟩ := hrel
    clear hr2 hB2
    by_cases hlt : k < m
    · obtain ⟨b, o, rfl, hkl, hc0, hc1, hm0, hm1⟩ := acts_at hl hlt
      have hcl := cell_lt hc0
      have c0 : wr.cell? ⟨b, o + k * 2, none⟩ = _ := (hb.cell (cell_lt hc0)).trans hc0
      have c1 : wr.cell? ⟨b, o + k * 2 + 1, none⟩ = _ := (hb.cell (cell_lt hc1)).trans hc1
      have hkd := l[k].1.toNat_lt
      generalize l[k].1.toNat = kd at *
      generalize l[k].2.1 = mo at *
      clear hl hx
      have hrs := hb.size
      go_wp2_with fail
      refine (fault_ br xs _ _ (Rr.below hr ((Below.refl _ _).alloc (Nat.le_refl _) _))).mono ?_
      rintro e w3 ⟨rfl, hb3⟩
      have hA3 : Blk w3 wr.heap.size 49 #[.int .u8 (kd : Int), .int .i64 mo] := (Blk.new wr _ _ rfl).keep hb3
      have hB3 : Below w.heap.size w w3 := (hb.alloc hrs _).trans (hb3.mono (by simp; omega))
      have hr3 : Rs w3 br xs s := Rs.below (Rs.below hr ((Below.refl _ _).alloc (Nat.le_refl _) _)) hb3
      clear hr hb hb3 c0 c1 hc0 hc1
      go_wp2_with fail
      refine (at_ br xs _ _ hr3).mono ?_
      rintro e w' ⟨rfl, rfl⟩
      have kk : 0 ≤ (kd : Int) := by omega
      have hl3 := hA3.lt
      have a0 := hA3.cell (j := 0) (u := .int .u8 (kd : Int)) rfl
      have a1 := hA3.cell (j := 1) (u := .int .i64 mo) rfl
      have hbl3 : br < w3.heap.size := Rr.lt hr3
      go_upto_block 2 with fail
      have hF4 := Blk.new w3 42 #[.int .i64 (s.e : Int), .int .i64 (s.f : Int)] rfl
      have hA4 := hA3.alloc (.cells #[.int .i64 (s.e : Int), .int .i64 (s.f : Int)] 42)
      have hr4 : Rs (w3.alloc (.cells #[.int .i64 (s.e : Int), .int .i64 (s.f : Int)] 42)) br xs s := Rs.below hr3 ((Below.refl _ _).alloc (Nat.le_refl _) _)
      have hB4 := hB3.alloc hB3.size (.cells #[.int .i64 (s.e : Int), .int .i64 (s.f : Int)] 42)
      generalize w3.heap.size = gf at *
      generalize (w3.alloc (.cells #[.int .i64 (s.e : Int), .int .i64 (s.f : Int)] 42)) = w4 at *
      have hl4 : br < w4.heap.size := Rr.lt hr4
      have hf0 : s.e = 0 → s.f = 0 := fun h => Rr.none_f hr4 h
      clear hA3 hB3 hr3 a0 a1
      go_cut [10, 11, 12] (fun n k p wc => StayInv w br xs s gf n k p wc)
      case first =>
        have a0 := hA4.cell (j := 0) (u := .int .u8 (kd : Int)) rfl
        have a1 := hA4.cell (j := 1) (u := .int .i64 mo) rfl
        have hk4 : kd % 4 = 0 ∨ kd % 4 = 1 ∨ kd % 4 = 2 ∨ kd % 4 = 3 := by omega
        have hxl : xs.length ≤ 140737488355328 := by have := Hn.out; omega
        rcases hk4 with h4 | h4 | h4 | h4
        all_goals
          have t4 := Lib.hid h4
          clear h4
        · have u0 : ((kd : Int) % 4 == 0) = true := by have := t4.out; rw [beq_iff_eq]; omega
          go_wp2_with fail
          refine (get_ br xs _ _ hr4 hxl).mono ?_
          rintro e w5 ⟨rfl, hr5, hg5⟩
          go_wp2_with fail
          go_meet
          exact ⟨(rGet xs s).2, (rGet xs s).1, 0, none, 0, 0, rfl, rfl, rfl, hr5, (rGet_place xs s hp).1, (rGet_place xs s hp).2, hB4.trans (wr_base hg5 hbr hl4), hF4.grown hg5 (by intro e; injection e with e; omega), fun h => by rw [rGet_fault xs s h]; exact ⟨rfl, rfl, rfl, rfl⟩⟩
        · have u0 : ((kd : Int) % 4 == 0) = false := by have := t4.out; rw [beq_eq_false_iff_ne]; omega
          have u1 : ((kd : Int) % 4 == 1) = true := by have := t4.out; rw [beq_iff_eq]; omega
          go_wp2_with fail
          refine (int_ br xs _ mo _ hr4 hxl ⟨hm0, hm1⟩).mono ?_
          rintro e w5 ⟨rfl, hr5, hg5⟩
          go_wp2_with fail
          go_meet
          exact ⟨(rInt xs mo s).2, 0, (rInt xs mo s).1, none, 0, 0, rfl, rfl, rfl, hr5, (rInt_place xs mo s hp).1, (rInt_place xs mo s hp).2, hB4.trans (wr_base hg5 hbr hl4), hF4.grown hg5 (by intro e; injection e with e; omega), fun h => by rw [rInt_fault xs mo s h]; exact ⟨rfl, rfl, rfl, rfl⟩⟩
        · have u0 : ((kd : Int) % 4 == 0) = false := by have := t4.out; rw [beq_eq_false_iff_ne]; omega
          have u1 : ((kd : Int) % 4 == 1) = false := by have := t4.out; rw [beq_eq_false_iff_ne]; omega
          have u2 : ((kd : Int) % 4 == 2) = true := by have := t4.out; rw [beq_iff_eq]; omega
          go_wp2_with fail
          refine (rpart_ br xs _ _ hr4 hxl).mono ?_
          rintro e w5 ⟨v5, rfl, hown5, hr5, hg5⟩
          obtain ⟨A5, c5, rfl, hc5, hm5, ha5⟩ := own_form hown5
          clear hown5
          go_wp2_with fail
          go_meet
          exact ⟨(rPart xs s).2, 0, 0, A5, (rPart xs s).1.length, c5, rfl, rfl, rfl, hr5, (rPart_place xs s hp).1, (rPart_place xs s hp).2, hB4.trans (wr_base hg5 hbr hl4), hF4.grown hg5 (by intro e; injection e with e; omega), fun h => by rw [rPart_fault xs s h]; exact ⟨rfl, rfl, rfl, rfl⟩⟩
        · have u0 : ((kd : Int) % 4 == 0) = false := by have := t4.out; rw [beq_eq_false_iff_ne]; omega
          have u1 : ((kd : Int) % 4 == 1) = false := by have := t4.out; rw [beq_eq_false_iff_ne]; omega
          have u2 : ((kd : Int) % 4 == 2) = false := by have := t4.out; rw [beq_eq_false_iff_ne]; omega
          go_wp2_with fail
          refine (end_ br xs _ _ hr4).mono ?_
          rintro e w5 ⟨rfl, hr5, hg5⟩
          go_wp2_with fail
          go_meet
          exact ⟨rEnd xs s, 0, 0, none, 0, 0, rfl, rfl, rfl, hr5, (rEnd_place xs s hp).1, (rEnd_place xs s hp).2, hB4.trans (wr_base hg5 hbr hl4), hF4.grown hg5 (by intro e; injection e with e; omega), fun h => ⟨rfl, rfl, rfl, rEnd_fault xs s h⟩⟩
      case rest =>
        obtain ⟨s', q, j, Ap, ln, cp, rfl, rfl, rfl, hr5, hp1, hp2, hB5, hF5, hft⟩ := hcut
        have a0 := hF5.cell (j := 0) (u := .int .i64 (s.e : Int)) rfl
        have a1 := hF5.cell (j := 1) (u := .int .i64 (s.f : Int)) rfl
        have hl5 := hF5.lt
        clear hr4 hB4 hF4 hA4
        have hp3 : (s.p : Int) ≤ (s'.p : Int) := by omega
        have hp4 : (s'.p : Int) ≤ (n : Int) := by have := Hn.out; omega
        have hp5 : (xs.length : Int) - s'.p = (n : Int) - s'.p := by have := Hn.out; omega
        have Hp5 := Lib.hid hp5
        have hxl : xs.length ≤ 140737488355328 := by have := Hn.out; omega
        clear hp5
        by_cases he : s.e = 0
        · have hf : s.f = 0 := hf0 he
          obtain ⟨p, e0, f0⟩ := s
          simp only at he hf
          subst he hf
          clear hft
          go_wp2_with fail
          go_quiet (fail)
          go_wp2_with fail
          refine (at_ br xs _ _ (Rr.drewN hr5 nq)).mono ?_
          rintro e w' ⟨rfl, rfl⟩
          go_wp2_with fail
          refine (at_ br xs _ _ (Rr.drewN hr5 nq)).mono ?_
          rintro e w' ⟨rfl, rfl⟩
          go_wp2_with fail
          refine (rleft_ br xs _ _ (Rr.drewN hr5 nq)).mono ?_
          rw [Hp5.out]
          rintro e w' ⟨rfl, k2, rfl⟩
          go_wp2_with fail
          refine (at_ br xs _ _ (Rr.drewN hr5 (nq + k2))).mono ?_
          rintro e w' ⟨rfl, rfl⟩
          go_wp2
          go_roundw
          case rel => exact ⟨k + 1, s', by omega, by go_num, Rr.drewN hr5 (nq + k2), hp2, below_drewN hB5 (nq + k2)⟩
          case measure => simp [intOf]; omega
        · obtain ⟨rfl, rfl, rfl, rfl⟩ := hft he
          have t1 : ((s'.e : Int) == 0) = false := by simpa using he
          have t2 : ((s'.e : Int) != 0) = true := by simpa using he
          clear hft he
          go_wp2_with fail
          go_region_held3 (fun w' => w'.cell? ⟨gf, 0, none⟩ = some (.int .i64 (s'.e : Int)) ∧ w'.cell? ⟨gf, 1, none⟩ = some (.int .i64 (s'.f : Int))) (first | go_keep | exact ⟨(hb6.cell hl5).trans a0, (hb6.cell hl5).trans a1⟩)
            (first
              | (go_at_call 20; refine (fault_ br xs _ _ (Rr.drewN hr5 1)).mono ?_; rintro e w6 ⟨rfl, hb6⟩)
              | (go_at_call 21; refine (at_ br xs _ _ (Rr.below (Rr.drewN hr5 1) hb6)).mono ?_; rintro e w' ⟨rfl, rfl⟩))
          have hb6' : Below wc.heap.size wc w6 := ⟨hb6.os, hb6.tape, hb6.output, hb6.size, hb6.block⟩
          have hr6 : Rs w6 br xs s' := Rs.below hr5 hb6'
          have hB6 : Below w.heap.size w w6 := hB5.trans (hb6'.mono hB5.size)
          clear hr5 hB5 hb6 hb6' a0 a1 hF5
          go_wp2_with fail
          refine (at_ br xs _ _ hr6).mono ?_
          rintro e w' ⟨rfl, rfl⟩
          go_wp2_with fail
          refine (at_ br xs _ _ hr6).mono ?_
          rintro e w' ⟨rfl, rfl⟩
          go_wp2_with fail
          refine (rleft_ br xs _ _ hr6).mono ?_
          rw [Hp5.out]
          rintro e w' ⟨rfl, k2, rfl⟩
          go_wp2_with fail
          refine (at_ br xs _ _ (Rr.drewN hr6 k2)).mono ?_
          rintro e w' ⟨rfl, rfl⟩
          go_wp2
          go_roundw
          case rel => exact ⟨k + 1, s', by omega, by go_num, Rr.drewN hr6 k2, hp2, below_drewN hB6 k2⟩
          case measure => simp [intOf]; omega
    · go_wp2
      go_ret
      exact ⟨rfl, hb⟩

theorem ops_acts : Opens Try.prog 47 (Shp.slice actShp 16) := opens_slice 16 Try.underlying47 (by kernel_rfl) (by kernel_rfl) (by decide)
  (opens_struct Try.underlying49 (by kernel_rfl) (opensF_cons (opens_u8 Try.underlying5 (by kernel_rfl)) rfl (opensF_cons (opens_int _ _ Try.underlying3 (by kernel_rfl) wf_i64) rfl (opensF_nil _))))

theorem packStays_lifted (os : Os) (started : os.Started) (H : Type) (enc : TypeId × Value → H) :
    ReturnsInHanded {} Try.checked os 6 .any (Rows.packStaysSpec.pre6 enc Try.prog Try.f6 Rows.packStaysRow.domain false) (Rows.packStaysSpec.post enc Try.prog Try.f6 false true false false) := by
  refine law_lifted (C := Try.checked) (tb := 4) own_ started (by kernel_rfl) Try.func6
    (ChangeSpec.witness6 (enc := enc) (C := Try.checked) false ⟨#[], #[.slice none 0 0, .slice none 0 0], []⟩ 8 (by kernel_rfl) (by kernel_rfl) (by kernel_rfl) (by kernel_rfl))
    rfl rfl Try.underlying4 laidOut_ (by kernel_rfl) (fun ds h => by match ds, h with | [_, _], _ => rfl) ?_
  intro W base args ds p hval0 hA0 _ hsz0
  have hval : ∀ (j : Nat) t v, Try.f6.params[j]? = some t → args[j]? = some v → Value.okWide Try.prog W .any base t v := hval0
  have hA : DataW.TrodAll enc Try.prog W 0 (fun _ => true) true Try.f6.params.toList args.toList ds p := hA0
  have hsz : (DataW.weightsEach Try.prog Try.f6.params.toList ds).all (· ≤ reachBytes) = true := hsz0
  clear hval0 hA0 hsz0
  rw [Try.params6] at hA hval hsz
  obtain ⟨v0, v1, d0, d1, p0, p1, rfl, rfl, rfl, h0, h1⟩ := trodAll_two hA
  obtain ⟨A0, n0, c0, xs0, rfl, r0, b0⟩ := arg_slice ops_bytes Try.underlying30 (hval 0 _ v0 rfl rfl) h0 (weight_at hsz (j := 0) rfl rfl)
  obtain ⟨hb0, hn0, ha0, hc0⟩ := bs_shp r0
  obtain ⟨A1, n1, c1, xs1, rfl, r1, b1⟩ := arg_slice ops_acts Try.underlying47 (hval 1 _ v1 rfl rfl) h1 (weight_at hsz (j := 1) rfl rfl)
  obtain ⟨Aq, cq, eq, h1, h2, _⟩ := id r1
  simp only [List.cons.injEq, Value.slice.injEq, and_true] at eq
  obtain ⟨rfl, rfl, rfl⟩ := eq
  exact packStays_walk A0 A1 n0 c0 _ c1 xs0 xs1 W hb0 ha0 hn0 hc0 r1 h1 h2

/-- PackStays, for every input: the statement as it was given. -/
theorem packStays_holds : Rows.PackStaysSaid :=
  OpenClaim.holds_of_wide 6 Try.f6 rfl rfl rfl rfl rfl rfl rfl ⟨rfl, rfl, rfl, rfl, rfl⟩ rfl rfl rfl rfl rfl (by kernel_rfl) Try.func6 (by kernel_rfl)
    (of_decide_eq_true (by kernel_rfl)) (by unfold Func.isWrapper; first | (rw [if_pos (by decide +kernel)]; kernel_rfl) | (rw [if_neg (by decide +kernel)]; exact ⟨rfl, rfl⟩))
    (fun os started H enc _ => packStays_lifted os started H enc)
end Go.Proofs.Ytimppkddpfhceaa
