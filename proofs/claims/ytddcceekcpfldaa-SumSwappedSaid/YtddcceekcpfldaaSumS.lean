/- Proves SumSwapped of layer 1 (check sums), for every input, with no condition: of sealed bytes with two unlike neighbours among the bytes exchanged nothing is opened. -/
import Derived.Test.YtddcceekcpfldaaSumL
import Derived.Test.YtddcceekcpfldaaSumN
import Derived.BigRegion
import Derived.Test.YtddcceekcpfldaaStab
namespace Go.Proofs.Ytddcceekcpfldaa
open Go.ChangeShapes Go.WideShapes Go.ChangeAt Go.RowKit

/-- What the operations of the last statement of SumSwapped give: E is the error, q whether the two are the same. -/
def swapV (b o n c k : Nat) (E : Int) (x y : UInt8) (q : Bool) (i : Nat) (_ : World) (v : Value) : Prop :=
  match i with
  | 0 => v = .int .i64 E
  | 1 | 11 => v = .bool q
  | 2 | 6 => v = .slice (some ⟨b, o, none⟩) n c
  | 3 | 7 => v = .int .i64 (k : Int)
  | 4 => v = .pointer (some ⟨b, o + k, none⟩)
  | 5 => v = .int .u8 (x.toNat : Int)
  | 8 => v = .int .i64 ((k : Int) + 1)
  | 9 => v = .pointer (some ⟨b, o + (k + 1), none⟩)
  | 10 => v = .int .u8 (y.toNat : Int)
  | _ => v = .bool true

set_option maxRecDepth 100000 in
set_option maxHeartbeats 4000000 in
theorem sumSwapped_walk (A : Option Addr) (n c : Nat) (xs : List UInt8) (z : Int) (w : World) (hr : Bs w A n xs) (hA : A = none → n = 0 ∧ c = 0) (hnc : n ≤ c) (hc : c ≤ 140737488351232) (hz : -9223372036854775808 ≤ z ∧ z ≤ 9223372036854775807) :
    Calls Try.prog 8 #[.slice A n c, .int .i64 z] w fun e w' => e = .returned (.bool true) ∧ Below w.heap.size w w' := by
  by_cases h2 : n < 2
  · clear hA hr
    go_enter Try.func8, Try.ntmps8
    go_wp2_with (refine (alive_ _).mono ?_; rintro e w5 ⟨rfl, hb5⟩)
    go_ret
    exact ⟨rfl, hb5⟩
  obtain ⟨m, rfl⟩ : ∃ m, n = m + 1 := ⟨n - 1, by omega⟩
  have hA0 : A = none → m + 1 = 0 := fun h => (hA h).1
  have tb := tmod_bounds z m (by omega)
  obtain ⟨k, hk⟩ : ∃ k : Nat, (z.tmod (m : Int) + ((m : Int) + 1) - 1) % (m : Int) = (k : Int) := ⟨((z.tmod (m : Int) + ((m : Int) + 1) - 1) % (m : Int)).toNat, by have := Int.emod_nonneg (z.tmod (m : Int) + ((m : Int) + 1) - 1) (b := (m : Int)) (by omega); omega⟩
  have hkm : k < m := by have := Int.emod_lt_of_pos (z.tmod (m : Int) + ((m : Int) + 1) - 1) (b := (m : Int)) (by omega); omega
  have Hl := Lib.hid hr.len
  go_enter Try.func8, Try.ntmps8
  go_wp2_with fail
  rw [hk]
  have Hk := Lib.hid hk
  clear hk tb
  refine (seal_ _ _ _ _ _ hr hA0 hnc (by omega) (by omega)).mono ?_
  rintro e w1 ⟨v1, rfl, hown1, hb1⟩
  obtain ⟨g, cap, rfl, hbase, hglt⟩ := hown1.form (by omega)
  have hx1 : k < xs.length := by rw [← Hl.out]; omega
  have hx2 : k + 1 < xs.length := by rw [← Hl.out]; omega
  have hxl : (xs ++ sumBytes (adOf [xs])).length = m + 1 + 4 := by rw [List.length_append, sumBytes_length, ← Hl.out]
  have q1 : w1.cell? ⟨g, k, none⟩ = some (.int .u8 (xs[k].toNat : Int)) := by
    rw [hown1.cellAt k (by omega)]
    simp only [bvs, bv, List.getElem?_map]
    rw [List.getElem?_append_left hx1, List.getElem?_eq_getElem hx1]; rfl
  have q2 : w1.cell? ⟨g, k + 1, none⟩ = some (.int .u8 (xs[k + 1].toNat : Int)) := by
    rw [hown1.cellAt (k + 1) (by omega)]
    simp only [bvs, bv, List.getElem?_map]
    rw [List.getElem?_append_left hx2, List.getElem?_eq_getElem hx2]; rfl
  have q3 := hown1.frozenAt k
  have q4 := hown1.frozenAt (k + 1)
  have hst1 := (hown1.stored k (bv xs[k + 1]))
  have hst2 := (hst1.1.stored (k + 1) (bv xs[k]))
  have hset : ((bvs (xs ++ sumBytes (adOf [xs]))).set k (bv xs[k + 1])).set (k + 1) (bv xs[k]) = bvs (((xs ++ sumBytes (adOf [xs])).set k xs[k + 1]).set (k + 1) xs[k]) := by
    simp only [bvs, List.map_set]
  rw [hset] at hst2
  have hok := okSum_swap xs k hx2
  obtain ⟨b, o, rfl, _, hc1⟩ := hr.at_ (k := k) (by omega)
  obtain ⟨b', o', e', _, hc2⟩ := hr.at_ (k := k + 1) (by omega)
  injection e' with e'
  injection e' with e1 e2
  subst e1 e2
  generalize ((xs ++ sumBytes (adOf [xs])).set k xs[k + 1]).set (k + 1) xs[k] = ys at *
  generalize hxk : xs[k] = x at *
  generalize hyk : xs[k + 1] = y at *
  have Hok := Lib.hid hok
  have Hst1 := Lib.hid hst1
  have Hst2 := Lib.hid hst2
  clear hok hst1 hst2 hset hxk hyk hown1 hxl hr hx1 hx2 hA hA0
  go_wp2
  go_region
  have hown3 : ((w1.setCell ⟨g, k, none⟩ (.int .u8 (y.toNat : Int))).setCell ⟨g, k + 1, none⟩ (.int .u8 (x.toNat : Int))).drew.ownsRow _ _ _ _ _ _ := Hst2.out.1
  have hw1 : Below w.heap.size w ((w1.setCell ⟨g, k, none⟩ (.int .u8 (y.toNat : Int))).setCell ⟨g, k + 1, none⟩ (.int .u8 (x.toNat : Int))).drew := ((hb1.setCell hbase _).setCell hbase _).drew
  have c1 : ((w1.setCell ⟨g, k, none⟩ (.int .u8 (y.toNat : Int))).setCell ⟨g, k + 1, none⟩ (.int .u8 (x.toNat : Int))).drew.cell? ⟨b, o + k, none⟩ = some (.int .u8 (x.toNat : Int)) := (hw1.cell (cell_lt hc1)).trans hc1
  have c2 : ((w1.setCell ⟨g, k, none⟩ (.int .u8 (y.toNat : Int))).setCell ⟨g, k + 1, none⟩ (.int .u8 (x.toNat : Int))).drew.cell? ⟨b, o + (k + 1), none⟩ = some (.int .u8 (y.toNat : Int)) := (hw1.cell (cell_lt hc2)).trans hc2
  generalize ((w1.setCell ⟨g, k, none⟩ (.int .u8 (y.toNat : Int))).setCell ⟨g, k + 1, none⟩ (.int .u8 (x.toNat : Int))).drew = w2 at *
  obtain ⟨_, _, e0, hcap, hcap2, _⟩ := own_form hown3
  injection e0 with e1 e2 e3
  subst e1 e3
  unfold maxLen at hcap2
  have hop := open_ (some ⟨g, 0, none⟩) (m + 1 + 4) cap ys w2 (bs_own hown3) (by simp) hcap (by omega) (by omega)
  clear hown3 q1 q2 q3 q4 Hst1 Hst2 hb1 hglt
  have Hc1 := Lib.hid hc1
  have Hc2 := Lib.hid hc2
  by_cases hxy : x = y
  · have hE : openE ys = 0 := by unfold openE; rw [Hok.out, decide_eq_true hxy]; rfl
    rw [hE] at hop
    subst hxy
    clear hE Hok hc1 hc2
    have Hop := Lib.hid hop
    clear hop
    go_wp2_with fail
    refine Hop.out.mono ?_
    rintro e w3 ⟨v3, rfl, hown3, hb3⟩
    have d1 := (hb3.cell (cell_lt c1)).trans c1
    have d2 := (hb3.cell (cell_lt c2)).trans c2
    clear c1 c2
    have hE0 : ((0 : Int) == 0) = true := rfl
    have hkm1 : (k : Int) < (m : Int) + 1 := by omega
    have hkm2 : 0 ≤ (k : Int) + 1 := by omega
    have hkb : (k : Int) + 1 ≤ 9223372036854775807 := by omega
    go_wp2
    refine wp_region_mem (swapV b o (m + 1) c k 0 x x true) (by kernel_rfl) (by kernel_rfl) (by kernel_rfl) (fun _ _ _ _ _ h => h) ?_ ?_
    · refine ⟨?_, ?_, ?_, ?_, ?_, ?_, ?_, ?_, ?_, ?_, ?_, ?_, ?_, ?_, ?_, ?_, ?_, trivial⟩
      all_goals intro W a hR
      all_goals first
        | (intro h0
           refine ⟨fun _ => ?_, fun h => absurd trivial h⟩
           change a.tmps.getD _ undef = _ at h0
           unfold Gives
           simp [execOp, Act.eval, get_of h0, go_sem]
           exact ⟨Below.refl _ _, rfl⟩)
        | (intro h0 h1
           refine ⟨fun _ => ?_, fun h => absurd trivial h⟩
           change a.tmps.getD _ undef = _ at h0
           change a.tmps.getD _ undef = _ at h1
           unfold Gives
           simp [execOp, Act.eval, get_of h0, get_of h1, go_sem]
           exact ⟨Below.refl _ _, rfl⟩)
        | skip
      · intro h0 h1
        change a.tmps.getD _ undef = _ at h0
        change a.tmps.getD _ undef = _ at h1
        refine ⟨fun _ => ?_, fun h => absurd trivial h⟩
        unfold Gives
        simp [execOp, Act.eval, get_of h0, get_of h1, go_sem, hkm1, add_plain]
        exact ⟨Below.refl _ _, rfl⟩
      · intro h0
        change a.tmps.getD _ undef = _ at h0
        refine ⟨fun _ => ?_, fun h => absurd trivial h⟩
        have d := (hR.cell (cell_lt d1)).trans d1
        unfold Gives
        simp [execOp, Act.eval, get_of h0, go_sem, d]
        exact ⟨Below.refl _ _, rfl⟩
      · intro h0
        change a.tmps.getD _ undef = _ at h0
        refine ⟨fun _ => ?_, fun h => absurd trivial h⟩
        have hwr : IntKind.i64.wrap ((k : Int) + 1) = (k : Int) + 1 := IntWalk.i64_in _ (by omega)
        unfold Gives
        simp [execOp, Act.eval, get_of h0, go_sem, hwr]
        exact ⟨Below.refl _ _, rfl⟩
      · intro h0 h1
        change a.tmps.getD _ undef = _ at h0
        change a.tmps.getD _ undef = _ at h1
        refine ⟨fun _ => ?_, fun h => absurd trivial h⟩
        rw [show (k : Int) + 1 = ((k + 1 : Nat) : Int) from rfl] at h1
        unfold Gives
        simp [execOp, Act.eval, get_of h0, get_of h1, go_sem, hkm2, hkm, add_plain]
        exact ⟨Below.refl _ _, rfl⟩
      · intro h0
        change a.tmps.getD _ undef = _ at h0
        refine ⟨fun _ => ?_, fun h => absurd trivial h⟩
        have d := (hR.cell (cell_lt d2)).trans d2
        unfold Gives
        simp [execOp, Act.eval, get_of h0, go_sem, d]
        exact ⟨Below.refl _ _, rfl⟩
      · intro hg
        change a.tmps.getD _ undef = _ at hg
        refine ⟨fun _ => ?_, fun h => absurd (congrArg some hg) h⟩
        unfold Gives
        simp [execOp, Act.eval, go_sem]
        refine (alive_ _).mono ?_
        rintro e W' ⟨rfl, hb⟩
        exact ⟨_, rfl, hb, rfl⟩
    · intro a W hR hd hs hall
      have h4 : a.tmps.getD 4 undef = .bool true := hall 4
      clear hall hs
      refine ‹∀ (a : Act) (w : World), Code.wp _ Code.ret _ a w → _› a W (wp_ret ?_)
      exact bodyPost_ret (results_tmp rfl _ _ _) hd ⟨congrArg Ending.returned h4, below_step (below_step hw1 hb3 (Nat.le_refl _)) hR (Nat.le_refl _)⟩
  · have hE : openE ys = 4 := by unfold openE; rw [Hok.out, decide_eq_false hxy]; rfl
    have hne : ¬ (x.toNat = y.toNat) := fun h => hxy (UInt8.toNat_inj.1 h)
    rw [hE] at hop
    clear hE Hok hc1 hc2
    have Hop := Lib.hid hop
    have Hne := Lib.hid hne
    clear hop hxy hne
    go_wp2_with fail
    refine Hop.out.mono ?_
    rintro e w3 ⟨v3, rfl, hown3, hb3⟩
    have d1 := (hb3.cell (cell_lt c1)).trans c1
    have d2 := (hb3.cell (cell_lt c2)).trans c2
    clear c1 c2
    have hE0 : ((4 : Int) == 0) = false := rfl
    have hkm1 : (k : Int) < (m : Int) + 1 := by omega
    have hkm2 : 0 ≤ (k : Int) + 1 := by omega
    have hkb : (k : Int) + 1 ≤ 9223372036854775807 := by omega
    go_wp2
    refine wp_region_mem (swapV b o (m + 1) c k 4 x y false) (by kernel_rfl) (by kernel_rfl) (by kernel_rfl) (fun _ _ _ _ _ h => h) ?_ ?_
    · refine ⟨?_, ?_, ?_, ?_, ?_, ?_, ?_, ?_, ?_, ?_, ?_, ?_, ?_, ?_, ?_, ?_, ?_, trivial⟩
      all_goals intro W a hR
      all_goals first
        | (intro h0
           refine ⟨fun _ => ?_, fun h => absurd trivial h⟩
           change a.tmps.getD _ undef = _ at h0
           unfold Gives
           simp [execOp, Act.eval, get_of h0, go_sem]
           exact ⟨Below.refl _ _, rfl⟩)
        | (intro h0 h1
           refine ⟨fun _ => ?_, fun h => absurd trivial h⟩
           change a.tmps.getD _ undef = _ at h0
           change a.tmps.getD _ undef = _ at h1
           unfold Gives
           simp [execOp, Act.eval, get_of h0, get_of h1, go_sem]
           exact ⟨Below.refl _ _, rfl⟩)
        | skip
      · intro h0 h1
        change a.tmps.getD _ undef = _ at h0
        change a.tmps.getD _ undef = _ at h1
        refine ⟨fun _ => ?_, fun h => absurd trivial h⟩
        unfold Gives
        simp [execOp, Act.eval, get_of h0, get_of h1, go_sem, hkm1, add_plain]
        exact ⟨Below.refl _ _, rfl⟩
      · intro h0
        change a.tmps.getD _ undef = _ at h0
        refine ⟨fun _ => ?_, fun h => absurd trivial h⟩
        have d := (hR.cell (cell_lt d1)).trans d1
        unfold Gives
        simp [execOp, Act.eval, get_of h0, go_sem, d]
        exact ⟨Below.refl _ _, rfl⟩
      · intro h0
        change a.tmps.getD _ undef = _ at h0
        refine ⟨fun _ => ?_, fun h => absurd trivial h⟩
        have hwr : IntKind.i64.wrap ((k : Int) + 1) = (k : Int) + 1 := IntWalk.i64_in _ (by omega)
        unfold Gives
        simp [execOp, Act.eval, get_of h0, go_sem, hwr]
        exact ⟨Below.refl _ _, rfl⟩
      · intro h0 h1
        change a.tmps.getD _ undef = _ at h0
        change a.tmps.getD _ undef = _ at h1
        refine ⟨fun _ => ?_, fun h => absurd trivial h⟩
        rw [show (k : Int) + 1 = ((k + 1 : Nat) : Int) from rfl] at h1
        unfold Gives
        simp [execOp, Act.eval, get_of h0, get_of h1, go_sem, hkm2, hkm, add_plain]
        exact ⟨Below.refl _ _, rfl⟩
      · intro h0
        change a.tmps.getD _ undef = _ at h0
        refine ⟨fun _ => ?_, fun h => absurd trivial h⟩
        have d := (hR.cell (cell_lt d2)).trans d2
        unfold Gives
        simp [execOp, Act.eval, get_of h0, go_sem, d]
        exact ⟨Below.refl _ _, rfl⟩
      · intro h0 h1
        change a.tmps.getD _ undef = _ at h0
        change a.tmps.getD _ undef = _ at h1
        refine ⟨fun _ => ?_, fun h => absurd trivial h⟩
        have hne := Hne.out
        unfold Gives
        simp [execOp, Act.eval, get_of h0, get_of h1, go_sem]
        refine ⟨Below.refl _ _, ?_⟩
        show Value.bool _ = Value.bool false
        rw [beq_eq_false_iff_ne.2 (by omega)]
      · intro hg
        change a.tmps.getD _ undef = _ at hg
        refine ⟨fun _ => ?_, fun h => absurd (congrArg some hg) h⟩
        unfold Gives
        simp [execOp, Act.eval, go_sem]
        refine (alive_ _).mono ?_
        rintro e W' ⟨rfl, hb⟩
        exact ⟨_, rfl, hb, rfl⟩
    · intro a W hR hd hs hall
      have h4 : a.tmps.getD 4 undef = .bool true := hall 4
      clear hall hs
      refine ‹∀ (a : Act) (w : World), Code.wp _ Code.ret _ a w → _› a W (wp_ret ?_)
      exact bodyPost_ret (results_tmp rfl _ _ _) hd ⟨congrArg Ending.returned h4, below_step (below_step hw1 hb3 (Nat.le_refl _)) hR (Nat.le_refl _)⟩

theorem sumSwapped_lifted (os : Os) (started : os.Started) (H : Type) (enc : TypeId × Value → H) :
    ReturnsInHanded {} Try.checked os 8 .any (Rows.sumSwappedSpec.pre6 enc Try.prog Try.f8 Rows.sumSwappedRow.domain false) (Rows.sumSwappedSpec.post enc Try.prog Try.f8 false true false false) := by
  refine law_lifted (C := Try.checked) (tb := 4) own_ started (by kernel_rfl) Try.func8
    (ChangeSpec.witness6 (enc := enc) (C := Try.checked) false ⟨#[], #[.slice none 0 0, .int .i64 0], []⟩ 8 (by kernel_rfl) (by kernel_rfl) (by kernel_rfl) (by kernel_rfl))
    rfl rfl Try.underlying4 laidOut_ (by kernel_rfl) (fun ds h => by match ds, h with | [_, _], _ => rfl) ?_
  intro W base args ds p hval0 hA0 _ hsz0
  have hval : ∀ (j : Nat) t v, Try.f8.params[j]? = some t → args[j]? = some v → Value.okWide Try.prog W .any base t v := hval0
  have hA : DataW.TrodAll enc Try.prog W 0 (fun _ => true) true Try.f8.params.toList args.toList ds p := hA0
  have hsz : (DataW.weightsEach Try.prog Try.f8.params.toList ds).all (· ≤ reachBytes) = true := hsz0
  clear hval0 hA0 hsz0
  rw [Try.params8] at hA hval hsz
  obtain ⟨v0, v1, d0, d1, p0, p1, rfl, rfl, rfl, h0, h1⟩ := trodAll_two hA
  obtain ⟨A0, n0, c0, xs0, rfl, hb0, hn0, ha0, hm0, hw0⟩ := open_bytes Try.underlying24 Try.underlying5 cells_u8 bytes_u8 (hval 0 _ v0 rfl rfl) h0
  have hc0 := hw0 (weight_at hsz (j := 0) rfl rfl)
  obtain ⟨z1, rfl, rfl, rfl, ws1⟩ := open_int Try.underlying3 (hval 1 _ v1 rfl rfl) h1
  have hs1 := bounds_i64 ws1
  exact sumSwapped_walk A0 n0 c0 xs0 z1 W hb0 ha0 hn0 hc0 hs1

/-- SumSwapped, for every input: the statement as it was given. -/
theorem sumSwapped_holds : Rows.SumSwappedSaid :=
  OpenClaim.holds_of_wide 8 Try.f8 rfl rfl rfl rfl rfl rfl rfl ⟨rfl, rfl, rfl, rfl, rfl⟩ rfl rfl rfl rfl rfl (by kernel_rfl) Try.func8 (by kernel_rfl)
    (of_decide_eq_true (by kernel_rfl)) (by unfold Func.isWrapper; first | (rw [if_pos (by decide +kernel)]; kernel_rfl) | (rw [if_neg (by decide +kernel)]; exact ⟨rfl, rfl⟩))
    (fun os started H enc _ => sumSwapped_lifted os started H enc)
end Go.Proofs.Ytddcceekcpfldaa
