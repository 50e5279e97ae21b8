/- XLanZ, XLanAr. -/
import Derived.Test.YtganoklclnbjkaaLanY
set_option linter.all false
namespace Go.Proofs.Ytganoklclnbjkaa
open Go.RowKit
namespace Lan
open Str (Rec mayB opOf FitR Rdt Rcl RC ra rv rv8 rvs oa k4 k8 rc_blk rc_of bldL)
open Blo (I64 apL apE GotN AnsN)
theorem i64n {k : Nat} (h : k ≤ 1000000) : I64 (k : Int) := by unfold I64; omega
section
variable (w : World)
set_option maxRecDepth 100000 in
set_option maxHeartbeats 4000000 in
theorem alive_ : Calls Try.prog 10 #[] w fun e w' => e = .returned (.bool true) ∧ Below w.heap.size w w' := by
  go_enter Try.func10, Try.ntmps10
  go_wp2_with fail
  refine (new_ w 0 0 4 (Int.le_refl _) zi64 (Int.le_refl _) zi64 (by omega)).mono ?_
  rintro e w1 ⟨b, rfl, hB, hbb, hb1⟩
  have hbl := hB.lt
  go_wp2_with fail
  refine (small_ w1).mono ?_
  rintro e w2 ⟨rfl, hw2⟩
  have hb2 := smW_below w1
  have hL := small_rfb w1 hbl
  rw [← hw2] at hb2 hL
  have hB2 : Be w2 b (fun _ => True) (sk 0) := hB.below hb2
  have hbw2 : Below w.heap.size w w2 := hb1.trans (hb2.mono hb1.size)
  clear hw2 hB hb2 hb1
  go_wp2_with fail
  go_loopw [19] (fun iv wr => ∃ k : Nat, k ≤ 3 ∧ iv = .int .i64 (k : Int) ∧ Be wr b (fun _ => True) (sk k) ∧ Rfb wr b (some ⟨w1.heap.size + 1, 0, none⟩) 3 [sH, sW, sT] ∧ Below w.heap.size w wr) (fun iv _ => 3 - (intOf iv).toNat)
  case atStart => exact ⟨0, Nat.zero_le _, rfl, hB2, hL, hbw2⟩
  case round =>
    obtain ⟨k, hk, rfl, hBe, hR, hb⟩ := hrel
    clear hB2 hL hbw2
    by_cases hlt : k < 3
    · have hil : (k : Int) < 3 := by omega
      have hi0 : (0 : Int) ≤ (k : Int) := by omega
      obtain ⟨bb, o, X, m, c, x, e, hx, hc, hd⟩ := hR.at_ hlt
      injection e with e
      injection e with e1 e2
      subst e1 e2
      obtain rfl := sR_at hx
      obtain ⟨c0, c1, c2, c3, c4, c5, c6, c7⟩ := hc.all
      simp only [Nat.zero_add] at c0 c1 c2 c3 c4 c5 c6 c7
      obtain ⟨wa, hwa⟩ : ∃ wa, wr.alloc (.cells (ra (sR k) (.slice X m c)) 29) = wa := ⟨_, rfl⟩
      have hba : Below wr.heap.size wr wa := by rw [← hwa]; exact (Below.refl _ _).alloc (Nat.le_refl _) _
      have hna : Blk wa wr.heap.size 29 (ra (sR k) (.slice X m c)) := by rw [← hwa]; exact Blk.new _ _ _ rfl
      obtain ⟨q0, q1, q2, q3, q4, q5, q6, q7⟩ := k8 hna
      have hT := take_ wa b (fun _ => True) (sk k) (k : Int) (sR k) X m c (hBe.below hba) (fun _ _ => trivial) (i64n (by omega)) (hd.below hba)
      rw [sk_take hlt] at hT
      clear hx hc hd hBe
      go_wp2_with fail
      refine hT.mono ?_
      rintro e w5 ⟨rfl, hBe5, hg5⟩
      have hR5 := (hR.below hba).grown hg5
      have hb5 : Below w.heap.size w w5 := (below_step hb hba (Nat.le_refl _)).grown hg5 (Nat.le_trans hb.size hba.size) (fun j hj => by injection hj with hj; omega)
      clear hT hR hg5
      go_wp2
      go_roundw
      case rel => exact ⟨k + 1, by omega, by go_num, hBe5, hR5, hb5⟩
      case measure => simp [intOf]; omega
    · have hin : (3 : Int) ≤ (k : Int) := by omega
      obtain rfl : k = 3 := by omega
      have hrd := breadp_ wr b (fun _ => True) (sk 3) 2 1 hBe (by rw [sk_n]; omega) (by omega)
      rw [sk_vol] at hrd
      clear hR
      go_wp2_with fail
      refine hrd.mono ?_
      rintro e w5 ⟨A, m, c, rfl, hG, hb5⟩
      have hBe5 := hBe.below hb5
      have hb6 : Below w.heap.size w w5 := below_step hb hb5 (Nat.le_refl _)
      obtain ⟨g, o, x, rfl, hx, cx⟩ := Blo.ns_get hG.ns (i := 0) (by have := hG.ns.len; simp at this; omega)
      have hm : m = 1 := by have := hG.ns.len; simpa using this
      subst hm
      simp at hx
      subst hx
      simp only [Nat.add_zero] at cx
      have hS := snap_ w5 b (fun _ => True) (sk 3) hBe5
      rw [sk_num] at hS
      clear hrd hG hb5 hBe
      go_wp2_with fail
      refine hS.mono ?_
      rintro e w6 ⟨rfl, rfl⟩
      go_wp2
      go_ret
      exact ⟨rfl, hb6⟩
end
end Lan
end Go.Proofs.Ytganoklclnbjkaa

set_option linter.all false
namespace Go.Proofs.Ytganoklclnbjkaa
open Go.ChangeShapes Go.WideShapes Go.ChangeAt Go.RowKit
namespace Lan
open Str (Rec FitR Rdt Rcl RC ra rv RecV recShp toRec rec_is rec_arr iShp ops_int ops_rec)
open Blo (I64)
theorem opens_arr3 {P : Program} {t : TypeId} {α : Type} {s : Shp α} {e : TypeId} (ht : P.underlying t = some (.array 3 e)) (hc : P.cellsOf t = s.n + (s.n + (s.n + 0))) (hs : Opens P e s) : Opens P t (Shp.agg (Shp.pair s (Shp.pair s (Shp.pair s Shp.unit)))) :=
  ⟨hc, fun H enc w base held fuel cs x h hw => by
    obtain ⟨xs, m, _, rfl, hl, hxl, hall⟩ := DataW.trod_array ht h
    simp only [DataW.weights, ht] at hw
    match xs, hxl with
    | [x0, x1, x2], _ =>
      have h0 := hall 0 (by omega)
      have h1 := hall 1 (by omega)
      have h2 := hall 2 (by omega)
      simp only [hs.1, Nat.zero_mul, List.drop_zero, Nat.one_mul, List.getElem?_cons_zero, List.getElem?_cons_succ] at h0 h1 h2
      obtain ⟨a0, r0, b0⟩ := hs.2 H enc w base held m _ _ h0 (fun q hq => hw q (weightsAll_in (by simp) q hq))
      obtain ⟨a1, r1, b1⟩ := hs.2 H enc w base held m _ _ h1 (fun q hq => hw q (weightsAll_in (by simp) q hq))
      obtain ⟨a2, r2, b2⟩ := hs.2 H enc w base held m _ _ h2 (fun q hq => hw q (weightsAll_in (by simp) q hq))
      rw [hc] at hl
      have e2 : (cs.drop (2 * s.n)).take s.n = (cs.drop s.n).drop s.n := by rw [List.drop_drop, List.take_of_length_le (by rw [List.length_drop]; omega)]; congr 1; omega
      rw [e2] at r2
      refine ⟨(a0, a1, a2, ()), ⟨cs.take s.n, cs.drop s.n, (List.take_append_drop _ _).symm, by rw [List.length_take]; omega, r0, (cs.drop s.n).take s.n, (cs.drop s.n).drop s.n, (List.take_append_drop _ _).symm, by rw [List.length_take, List.length_drop]; omega, r1, (cs.drop s.n).drop s.n, [], by rw [List.append_nil], by rw [List.length_drop, List.length_drop]; omega, r2, rfl⟩, ?_⟩
      simp only [Shp.agg, Shp.pair, Shp.unit, Rows.uptoBulk, List.map_cons, List.map_nil, Rows.uptoBulkAll]
      omega⟩
abbrev ThreeV : Type := Int × Int × Int × Unit
def threeShp : Shp ThreeV := Shp.agg (Shp.pair iShp (Shp.pair iShp (Shp.pair iShp Shp.unit)))
theorem three_arr {w : World} {cs : Array Value} {v : ThreeV} (h : threeShp.R w cs.toList v) : cs = #[.int .i64 v.1, .int .i64 v.2.1, .int .i64 v.2.2.1] ∧ I64 v.1 ∧ I64 v.2.1 ∧ I64 v.2.2.1 := by
  obtain ⟨c1, r1, e, hl1, ⟨h1, b1⟩, c2, r2, rfl, hl2, ⟨h2, b2⟩, c3, r3, rfl, hl3, ⟨h3, b3⟩, h4⟩ := h
  have h4 : r3 = [] := h4
  subst h1 h2 h3 h4
  exact ⟨Array.toList_inj.1 (by rw [e]; rfl), b1, b2, b3⟩
abbrev ActV : Type := UInt8 × Int × RecV × Unit
def actShp : Shp ActV := Shp.agg (Shp.pair Shp.u8 (Shp.pair iShp (Shp.pair recShp Shp.unit)))
theorem act_is {w : World} {cs : List Value} {a : ActV} (h : actShp.R w cs a) : ∃ X m c, cs = .int .u8 (a.1.toNat : Int) :: .int .i64 a.2.1 :: rv (toRec a.2.2.1) (.slice X m c) ∧ I64 a.2.1 ∧ Rdt w (toRec a.2.2.1) X m c := by
  obtain ⟨c1, r1, rfl, hl1, h1, c2, r2, rfl, hl2, ⟨h2, b2⟩, c3, r3, rfl, hl3, h3, h4⟩ := h
  have h1 : c1 = [.int .u8 (a.1.toNat : Int)] := h1
  have h4 : r3 = [] := h4
  subst h1 h2 h4
  obtain ⟨X, m, c, rfl, hd⟩ := rec_is h3
  exact ⟨X, m, c, by simp, b2, hd⟩
theorem act_arr {w : World} {cs : Array Value} {a : ActV} (h : actShp.R w cs.toList a) : ∃ X m c, cs = #[.int .u8 (a.1.toNat : Int), .int .i64 a.2.1, .int .i64 (toRec a.2.2.1).k, .int .i64 (toRec a.2.2.1).sh, .int .i64 (toRec a.2.2.1).sn, .int .i64 (toRec a.2.2.1).ba, .int .i64 (toRec a.2.2.1).ma, .int .i64 (toRec a.2.2.1).off, .int .i64 (toRec a.2.2.1).len, .slice X m c] ∧ I64 a.2.1 ∧ Rdt w (toRec a.2.2.1) X m c := by
  obtain ⟨X, m, c, e, hi, hd⟩ := act_is h
  exact ⟨X, m, c, Array.toList_inj.1 (by rw [e]), hi, hd⟩
/-- The act k of a script, in a later world. -/
theorem acts_later {W w : World} {S : Option Addr} {n c : Nat} {l : List ActV} (h : (Shp.slice actShp 96).R W [.slice S n c] l) (hb : Below W.heap.size W w) {k : Nat} (hk : k < n) :
    ∃ b o X m cc, ∃ a : ActV, S = some ⟨b, o, none⟩ ∧ I64 a.2.1 ∧ w.cell? ⟨b, o + k * 10, none⟩ = some (.int .u8 (a.1.toNat : Int)) ∧ w.cell? ⟨b, o + k * 10 + 1, none⟩ = some (.int .i64 a.2.1) ∧ (∀ j u, (rv (toRec a.2.2.1) (.slice X m cc))[j]? = some u → w.cell? ⟨b, o + k * 10 + (j + 2), none⟩ = some u) ∧ Rdt w (toRec a.2.2.1) X m cc := by
  obtain ⟨A', c', e, h1, h2, h3, h4, h5⟩ := h
  simp only [List.cons.injEq, Value.slice.injEq, and_true] at e
  obtain ⟨rfl, rfl, rfl⟩ := e
  obtain ⟨b, o, vs, rfl, hl, hc, hr⟩ := h5 k hk
  obtain ⟨X, m, cc, rfl, hi, hd⟩ := act_is hr
  have e10 : actShp.n = 10 := rfl
  rw [e10] at hc
  have g : ∀ {p : Addr} {u : Value}, W.cell? p = some u → w.cell? p = some u := fun h => (hb.cell (cell_lt h)).trans h
  exact ⟨b, o, X, m, cc, l[k], rfl, hi, by simpa using g (hc 0 _ rfl), g (hc 1 _ rfl), fun j u hu => g (hc (j + 2) u (by simpa using hu)), hd.below hb⟩
theorem acts_len {w : World} {A : Option Addr} {n c : Nat} {l : List ActV} (h : (Shp.slice actShp 96).R w [.slice A n c] l) : n ≤ 9223372036854775807 := by
  obtain ⟨A', c', e, h1, h2, h3, h4, h5⟩ := h
  simp only [List.cons.injEq, Value.slice.injEq, and_true] at e
  obtain ⟨rfl, rfl, rfl⟩ := e
  omega
theorem ops_three : Opens Try.prog 49 threeShp := opens_arr3 Try.underlying49 (by kernel_rfl) ops_int
theorem ops_act : Opens Try.prog 52 actShp :=
  opens_struct Try.underlying52 (by kernel_rfl) (opensF_cons (opens_u8 Try.underlying5 (by kernel_rfl)) rfl (opensF_cons ops_int rfl (opensF_cons ops_rec rfl (opensF_nil _))))
theorem ops_acts : Opens Try.prog 50 (Shp.slice actShp 96) := opens_slice 96 Try.underlying50 (by kernel_rfl) (by kernel_rfl) (by decide) ops_act
end Lan
end Go.Proofs.Ytganoklclnbjkaa
