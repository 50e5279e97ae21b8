/- Proves SumTurned of layer 1 (check sums), for every input, with no condition: of sealed bytes with one byte turned nothing is opened. -/
import Derived.Test.YtddcceekcpfldaaSumL
import Derived.Test.YtddcceekcpfldaaSumN
import Derived.BigRegion
namespace Go.Proofs.Ytddcceekcpfldaa
open Go.ChangeShapes Go.WideShapes Go.ChangeAt Go.RowKit

set_option maxRecDepth 100000 in
set_option maxHeartbeats 4000000 in
theorem sumTurned_walk (A : Option Addr) (n c : Nat) (xs : List UInt8) (z : Int) (y : UInt8) (w : World) (hr : Bs w A n xs) (hA : A = none → n = 0 ∧ c = 0) (hnc : n ≤ c) (hc : c ≤ 140737488351232) (hz : -9223372036854775808 ≤ z ∧ z ≤ 9223372036854775807) :
    Calls Try.prog 7 #[.slice A n c, .agg #[.int .i64 z, .int .u8 (y.toNat : Int)]] w fun e w' => e = .returned (.bool true) ∧ Below w.heap.size w w' := by
  have hA0 : A = none → n = 0 := fun h => (hA h).1
  have tb := tmod_bounds z (n + 4) (by omega)
  rw [show ((n + 4 : Nat) : Int) = (n : Int) + 4 from rfl] at tb
  obtain ⟨k, hk⟩ : ∃ k : Nat, (z.tmod ((n : Int) + 4) + ((n : Int) + 4)) % ((n : Int) + 4) = (k : Int) := ⟨((z.tmod ((n : Int) + 4) + ((n : Int) + 4)) % ((n : Int) + 4)).toNat, by have := Int.emod_nonneg (z.tmod ((n : Int) + 4) + ((n : Int) + 4)) (b := (n : Int) + 4) (by omega); omega⟩
  have hkn : k < n + 4 := by have := Int.emod_lt_of_pos (z.tmod ((n : Int) + 4) + ((n : Int) + 4)) (b := (n : Int) + 4) (by omega); omega
  have hy : y.toNat < 256 := y.toNat_lt
  have Hl := Lib.hid hr.len
  go_enter Try.func7, Try.ntmps7
  go_wp2_with fail
  refine (seal_ _ _ _ _ _ (hr.alloc _) hA0 hnc (by omega) (by omega)).mono ?_
  rintro e w1 ⟨v1, rfl, hown1, hb1⟩
  have q0 : w1.cell? ⟨w.heap.size, 0, none⟩ = some (.int .i64 z) := (hb1.cell (by simp)).trans (by go_cell)
  have q1 : w1.cell? ⟨w.heap.size, 1, none⟩ = some (.int .u8 (y.toNat : Int)) := (hb1.cell (by simp)).trans (by go_cell)
  obtain ⟨g, cap, rfl, hbase, hglt⟩ := hown1.form (by omega)
  rw [World.size_alloc] at hbase
  have hxl : (xs ++ sumBytes (adOf [xs])).length = n + 4 := by rw [List.length_append, sumBytes_length, ← Hl.out]
  have hkx : k < (xs ++ sumBytes (adOf [xs])).length := by rw [hxl]; exact hkn
  have q2 : w1.cell? ⟨g, k, none⟩ = some (.int .u8 (((xs ++ sumBytes (adOf [xs]))[k]'hkx).toNat : Int)) := by
    rw [hown1.cellAt k (by omega)]
    simp only [bvs, bv, List.getElem?_map, List.getElem?_eq_getElem hkx, Option.map_some]
  have q3 := hown1.frozenAt k
  have hold : ((xs ++ sumBytes (adOf [xs]))[k]'hkx).toNat < 256 := UInt8.toNat_lt _
  have hx := u8_xor_nat _ _ hold hy
  have hok := okSum_set xs k (((xs ++ sumBytes (adOf [xs]))[k]'hkx) ^^^ y) hkx
  have hiff := xor_self_iff ((xs ++ sumBytes (adOf [xs]))[k]'hkx) y
  have hst := (hown1.stored k (bv (((xs ++ sumBytes (adOf [xs]))[k]'hkx) ^^^ y)))
  have hset : (bvs (xs ++ sumBytes (adOf [xs]))).set k (bv (((xs ++ sumBytes (adOf [xs]))[k]'hkx) ^^^ y)) = bvs ((xs ++ sumBytes (adOf [xs])).set k (((xs ++ sumBytes (adOf [xs]))[k]'hkx) ^^^ y)) := by
    simp only [bvs, List.map_set]
  rw [hset] at hst
  have hbv : bv (((xs ++ sumBytes (adOf [xs]))[k]'hkx) ^^^ y) = .int .u8 ((((xs ++ sumBytes (adOf [xs]))[k]'hkx).toNat ^^^ y.toNat : Nat) : Int) := by
    rw [bv, UInt8.toNat_xor]
  rw [hbv] at hst
  generalize hold' : (xs ++ sumBytes (adOf [xs]))[k]'hkx = old at *
  generalize (xs ++ sumBytes (adOf [xs])).set k (old ^^^ y) = ys at *
  have Hok := Lib.hid hok
  have Hx := Lib.hid hx
  have Hst := Lib.hid hst
  clear hok hx hset hbv hold' hst hown1 hr
  go_wp2
  rw [hk]
  have Hk := Lib.hid hk
  clear hk tb hxl
  go_region
  rw [Hx.out]
  obtain ⟨hown2, hg2⟩ := Hst.out
  have q0' : (w1.setCell ⟨g, k, none⟩ (.int .u8 ((old.toNat ^^^ y.toNat : Nat) : Int))).drew.cell? ⟨w.heap.size, 0, none⟩ = some (.int .i64 z) := hg2.cell q0 (by simp; omega)
  have q1' : (w1.setCell ⟨g, k, none⟩ (.int .u8 ((old.toNat ^^^ y.toNat : Nat) : Int))).drew.cell? ⟨w.heap.size, 1, none⟩ = some (.int .u8 (y.toNat : Int)) := hg2.cell q1 (by simp; omega)
  have hown3 : (w1.setCell ⟨g, k, none⟩ (.int .u8 ((old.toNat ^^^ y.toNat : Nat) : Int))).drew.ownsRow _ _ _ _ _ _ := hown2
  have hw1 : Below w.heap.size w (w1.setCell ⟨g, k, none⟩ (.int .u8 ((old.toNat ^^^ y.toNat : Nat) : Int))).drew :=
    ((((Below.refl _ _).alloc (Nat.le_refl _) _).trans (hb1.mono (by simp))).setCell (by simp at *; omega) _).drew
  have hsz1 : w.heap.size + 1 ≤ (w1.setCell ⟨g, k, none⟩ (.int .u8 ((old.toNat ^^^ y.toNat : Nat) : Int))).drew.heap.size := by
    have := hb1.size; simp at *; omega
  generalize (w1.setCell ⟨g, k, none⟩ (.int .u8 ((old.toNat ^^^ y.toNat : Nat) : Int))).drew = w2 at *
  have hnc2 := (own_form hown3)
  obtain ⟨_, _, e0, hcap, hcap2, _⟩ := hnc2
  injection e0 with e1 e2 e3
  subst e1 e3
  unfold maxLen at hcap2
  have hop := open_ (some ⟨g, 0, none⟩) (n + 4) cap ys w2 (bs_own hown3) (by simp) hcap (by omega) (by omega)
  clear hown3 hown2 hg2 q0 q1 q2 q3 Hst hb1 hglt
  by_cases hy0 : y = 0
  · have hE : openE ys = 0 := by unfold openE; rw [Hok.out, decide_eq_true (hiff.2 hy0)]; rfl
    have h1 : ((y.toNat : Int) == 0) = true := by subst hy0; rfl
    rw [hE] at hop
    clear hE Hok hiff hy
    have Hop := Lib.hid hop
    clear hop
    go_wp2_with fail
    refine Hop.out.mono ?_
    rintro e w3 ⟨v3, rfl, hown3, hb3⟩
    have q1'' : w3.cell? ⟨w.heap.size, 1, none⟩ = some (.int .u8 (y.toNat : Int)) := (hb3.cell (by simp; omega)).trans q1'
    obtain ⟨A3, c3, rfl, hc3, hm3, ha3⟩ := own_form hown3
    go_wp2_with (refine (alive_ _).mono ?_; rintro e w5 ⟨rfl, hb5⟩)
    go_ret
    exact ⟨rfl, below_step (below_step hw1 hb3 (Nat.le_refl _)) hb5 (Nat.le_refl _)⟩
  · have hq : ¬ (old ^^^ y = old) := fun h => hy0 (hiff.1 h)
    have hE : openE ys = 4 := by unfold openE; rw [Hok.out, decide_eq_false hq]; rfl
    have hL : openL ys = [] := by unfold openL; rw [Hok.out, decide_eq_false hq]; rfl
    have h1 : ((y.toNat : Int) == 0) = false := by
      have : y.toNat ≠ 0 := fun h => hy0 (UInt8.toNat_inj.1 (by simpa using h))
      simp; omega
    rw [hE, hL] at hop
    clear hE hL hq Hok hiff hy hy0
    have Hop := Lib.hid hop
    clear hop
    go_wp2_with fail
    refine Hop.out.mono ?_
    rintro e w3 ⟨v3, rfl, hown3, hb3⟩
    have q1'' : w3.cell? ⟨w.heap.size, 1, none⟩ = some (.int .u8 (y.toNat : Int)) := (hb3.cell (by simp; omega)).trans q1'
    obtain ⟨A3, c3, rfl, hc3, hm3, ha3⟩ := own_form hown3
    rw [List.length_nil] at *
    go_wp2_with (refine (alive_ _).mono ?_; rintro e w5 ⟨rfl, hb5⟩)
    go_ret
    exact ⟨rfl, below_step (below_step hw1 hb3 (Nat.le_refl _)) hb5 (Nat.le_refl _)⟩
theorem sumTurned_lifted (os : Os) (started : os.Started) (H : Type) (enc : TypeId × Value → H) :
    ReturnsInHanded {} Try.checked os 7 .any (Rows.sumTurnedSpec.pre6 enc Try.prog Try.f7 Rows.sumTurnedRow.domain false) (Rows.sumTurnedSpec.post enc Try.prog Try.f7 false true false false) := by
  refine law_lifted (C := Try.checked) (tb := 4) own_ started (by kernel_rfl) Try.func7
    (ChangeSpec.witness6 (enc := enc) (C := Try.checked) false ⟨#[], #[.slice none 0 0, .agg #[.int .i64 0, .int .u8 0]], []⟩ 8 (by kernel_rfl) (by kernel_rfl) (by kernel_rfl) (by kernel_rfl))
    rfl rfl Try.underlying4 laidOut_ (by kernel_rfl) (fun ds h => by match ds, h with | [_, _], _ => rfl) ?_
  intro W base args ds p hval0 hA0 _ hsz0
  have hval : ∀ (j : Nat) t v, Try.f7.params[j]? = some t → args[j]? = some v → Value.okWide Try.prog W .any base t v := hval0
  have hA : DataW.TrodAll enc Try.prog W 0 (fun _ => true) true Try.f7.params.toList args.toList ds p := hA0
  have hsz : (DataW.weightsEach Try.prog Try.f7.params.toList ds).all (· ≤ reachBytes) = true := hsz0
  clear hval0 hA0 hsz0
  rw [Try.params7] at hA hval hsz
  obtain ⟨v0, v1, d0, d1, p0, p1, rfl, rfl, rfl, h0, h1⟩ := trodAll_two hA
  obtain ⟨A0, n0, c0, xs0, rfl, hb0, hn0, ha0, hm0, hw0⟩ := open_bytes Try.underlying24 Try.underlying5 cells_u8 bytes_u8 (hval 0 _ v0 rfl rfl) h0
  have hc0 := hw0 (weight_at hsz (j := 0) rfl rfl)
  obtain ⟨x0, x1, y0, y1, m, rfl, rfl, rfl, t0, t1⟩ := Joins.open_agg2 Try.underlying40 (by kernel_rfl) (by kernel_rfl) (hval 1 _ v1 rfl rfl) h1
  obtain ⟨z, hz1, _, wz⟩ := DataW.trod_int Try.underlying3 t0
  obtain ⟨q, hq1, _, wq⟩ := DataW.trod_int Try.underlying5 t1
  obtain rfl := List.singleton_inj.1 hz1
  obtain rfl := List.singleton_inj.1 hq1
  obtain ⟨y, rfl⟩ : ∃ y : UInt8, q = (y.toNat : Int) := ⟨_, byte_of wq⟩
  exact sumTurned_walk A0 n0 c0 xs0 z y W hb0 ha0 hn0 hc0 (bounds_i64 wz)

/-- SumTurned, for every input: the statement as it was given. -/
theorem sumTurned_holds : Rows.SumTurnedSaid :=
  OpenClaim.holds_of_wide 7 Try.f7 rfl rfl rfl rfl rfl rfl rfl ⟨rfl, rfl, rfl, rfl, rfl⟩ rfl rfl rfl rfl rfl (by kernel_rfl) Try.func7 (by kernel_rfl)
    (of_decide_eq_true (by kernel_rfl)) (by unfold Func.isWrapper; first | (rw [if_pos (by decide +kernel)]; kernel_rfl) | (rw [if_neg (by decide +kernel)]; exact ⟨rfl, rfl⟩))
    (fun os started H enc _ => sumTurned_lifted os started H enc)
end Go.Proofs.Ytddcceekcpfldaa
