/- Proves EmapOrder of layer 6 (emap), for every input, with no condition: extents put in any order, that do not meet, come to the same list. -/
import Derived.Test.YtechbmppbmppdaaEmpW
namespace Go.Proofs.Ytechbmppbmppdaa
open Go.ChangeShapes Go.WideShapes Go.ChangeAt Go.RowKit

theorem rot_at {α : Type} {l : List α} {t i : Nat} (ht : t < l.length) (hi : i < l.length) : (l.drop t ++ l.take t)[i]? = l[(i + t) % l.length]? := by
  by_cases h : i + t < l.length
  · rw [List.getElem?_append_left (by rw [List.length_drop]; omega), List.getElem?_drop, Nat.mod_eq_of_lt h, Nat.add_comm]
  · rw [List.getElem?_append_right (by rw [List.length_drop]; omega), List.length_drop, List.getElem?_take, if_pos (by omega)]
    congr 1
    rw [Nat.mod_eq_sub_mod (by omega), Nat.mod_eq_of_lt (by omega)]
    omega
theorem rot_mem {α : Type} (l : List α) (t : Nat) (x : α) : x ∈ l.drop t ++ l.take t ↔ x ∈ l := by
  constructor
  · intro h
    rcases List.mem_append.1 h with h | h
    · exact List.mem_of_mem_drop h
    · exact List.mem_of_mem_take h
  · intro h
    rw [← List.take_append_drop t l] at h
    rcases List.mem_append.1 h with h | h
    · exact List.mem_append_right _ h
    · exact List.mem_append_left _ h
theorem rot_puts {l : List Ext} (hr : rightB l = true) (t : Nat) : (l.drop t ++ l.take t).foldl putL [] = l :=
  puts_all hr (fun x hx => (rot_mem l t x).1 hx) (fun x hx => (rot_mem l t x).2 hx)
theorem rev_puts {l : List Ext} (hr : rightB l = true) : l.reverse.foldl putL [] = l :=
  puts_all hr (fun x hx => List.mem_reverse.1 hx) (fun x hx => List.mem_reverse.2 hx)
theorem rev_at {α : Type} {l : List α} {i : Nat} (hi : i < l.length) : l.reverse[i]? = l[l.length - 1 - i]? := List.getElem?_reverse hi
/-- Go's turn, made a number from 0 on, below n. -/
theorem turn_is (t : Int) (n : Nat) (hn : 0 < n) : ∃ tt : Nat, tt < n ∧ (t.tmod n + n).tmod n = (tt : Int) := by
  have h1 := Int.tmod_lt_of_pos t (b := (n : Int)) (by omega)
  have h2 : -(n : Int) < t.tmod n := by
    have := Int.lt_tmod_of_pos t (b := (n : Int)) (by omega)
    exact this
  have h3 : 0 ≤ (t.tmod n + n).tmod n := Int.tmod_nonneg _ (by omega)
  have h4 := Int.tmod_lt_of_pos (t.tmod n + n) (b := (n : Int)) (by omega)
  exact ⟨((t.tmod n + n).tmod n).toNat, by omega, by omega⟩

set_option maxRecDepth 100000 in
set_option maxHeartbeats 2000000 in
theorem emapOrder_no (w : World) (A : Option Addr) (n c : Nat) (l : List Ext) (h : Es w A n l) (hn : n ≤ 9223372036854775807) (t : Int) (hb : ¬ (rightB l = true ∧ 0 < n ∧ n ≤ 60)) :
    Calls Try.prog 7 #[.slice A n c, .int .i64 t] w fun e w' => e = .returned (.bool true) ∧ Below w.heap.size w w' := by
  cases hr : rightB l with
  | false =>
    go_enter Try.func7, Try.ntmps7
    go_wp2_with fail
    refine (rright_ w A n c l h hn).mono ?_
    rw [hr]
    rintro e w1 ⟨rfl, hb1⟩
    go_wp2_with fail
    refine (alive_ _).mono ?_
    rintro e w6 ⟨rfl, hb6⟩
    go_wp2
    go_ret
    exact ⟨rfl, below_step hb1 hb6 (Nat.le_refl _)⟩
  | true =>
    by_cases h0 : n = 0
    · subst h0
      go_enter Try.func7, Try.ntmps7
      go_wp2_with fail
      refine (rright_ w A 0 c l h hn).mono ?_
      rw [hr]
      rintro e w1 ⟨rfl, hb1⟩
      go_wp2_with fail
      refine (alive_ _).mono ?_
      rintro e w6 ⟨rfl, hb6⟩
      go_wp2
      go_ret
      exact ⟨rfl, below_step hb1 hb6 (Nat.le_refl _)⟩
    · have h60 : (60 : Int) < (n : Int) := by
        have : ¬ (0 < n ∧ n ≤ 60) := fun e => hb ⟨hr, e⟩
        omega
      have hne : ((n : Int) == 0) = false := by
        have : ¬ (n : Int) = 0 := by omega
        simpa using this
      go_enter Try.func7, Try.ntmps7
      go_wp2_with fail
      refine (rright_ w A n c l h hn).mono ?_
      rw [hr]
      rintro e w1 ⟨rfl, hb1⟩
      go_wp2_with fail
      refine (alive_ _).mono ?_
      rintro e w6 ⟨rfl, hb6⟩
      go_wp2
      go_ret
      exact ⟨rfl, below_step hb1 hb6 (Nat.le_refl _)⟩
set_option maxRecDepth 100000 in
set_option maxHeartbeats 4000000 in
theorem emapOrder_ok (w : World) (A : Option Addr) (n c : Nat) (l : List Ext) (h : Es w A n l) (hn : n ≤ 9223372036854775807) (t : Int) (hr : rightB l = true) (h0 : 0 < n) (h60 : n ≤ 60) (ht : I64 t) :
    Calls Try.prog 7 #[.slice A n c, .int .i64 t] w fun e w' => e = .returned (.bool true) ∧ Below w.heap.size w w' := by
  have Hl := Lib.hid h.len
  obtain ⟨tt, htt, hmod⟩ := turn_is t n h0
  have hne : ((n : Int) == 0) = false := by
    have : ¬ (n : Int) = 0 := by omega
    simpa using this
  have hnz : ¬ (n : Int) = 0 := by omega
  have hml := mays_right hr
  unfold I64 at ht
  go_enter Try.func7, Try.ntmps7
  go_wp2_with fail
  refine (rright_ w A n c l h hn).mono ?_
  rw [hr]
  rintro e w1 ⟨rfl, hb1⟩
  have h60i : (n : Int) ≤ 60 := by omega
  have hw64 : wrap64 (t.tmod n + n) = t.tmod n + n := by
    have h1 := Int.tmod_lt_of_pos t (b := (n : Int)) (by omega)
    have h2 : -(n : Int) < t.tmod n := Int.lt_tmod_of_pos t (b := (n : Int)) (by omega)
    unfold wrap64; omega
  have hd60 : decide ((60 : Int) < (n : Int)) = false := decide_eq_false (by omega)
  have hd60' : decide (60 < n) = false := decide_eq_false (by omega)
  go_wp2_with fail
  go_loopw [5, 6, 38] (fun av bv iv wr => ∃ (i : Nat) (ca cb : List Ext) (A1 : Option Addr) (m1 c1 : Nat) (A2 : Option Addr) (m2 c2 : Nat), i ≤ n ∧ iv = .int .i64 (i : Int) ∧ av = .slice A1 m1 c1 ∧ bv = .slice A2 m2 c2 ∧
    Got wr w.heap.size A1 m1 c1 ca ∧ Got wr w.heap.size A2 m2 c2 cb ∧ rightB ca = true ∧ rightB cb = true ∧ ((l.drop tt ++ l.take tt).drop i).foldl putL ca = l ∧ (l.reverse.drop i).foldl putL cb = l ∧ Below w.heap.size w wr) (fun _ _ iv _ => n - (intOf iv).toNat)
  case atStart => exact ⟨0, [], [], none, 0, 0, none, 0, 0, Nat.zero_le _, rfl, rfl, rfl, Got.none _ _, Got.none _ _, rfl, rfl, rot_puts hr tt, rev_puts hr, hb1⟩
  case round =>
    obtain ⟨i, ca, cb, A1, m1, c1, A2, m2, c2, hi, rfl, rfl, rfl, ga, gb, ra, rb, fa, fb, hb⟩ := hrel
    have hbs := hb.size
    clear hb1 hw64
    by_cases hlt : i < n
    · have hil : (i : Int) < (n : Int) := by omega
      have hll := Hl.out
      have hpn : (i + tt) % n < n := Nat.mod_lt _ h0
      have hrx := rot_at (l := l) (t := tt) (i := i) (by omega) (by omega)
      have hry := rev_at (l := l) (i := i) (by omega)
      rw [← hll] at hrx hry
      have hq : ((i : Int) + (tt : Int)).tmod (n : Int) = (((i + tt) % n : Nat) : Int) := by
        rw [Int.tmod_eq_emod_of_nonneg (by omega)]; norm_cast
      obtain ⟨q, hqe⟩ : ∃ q, q = n - 1 - i := ⟨_, rfl⟩
      have hq2 : (n : Int) - 1 - (i : Int) = (q : Int) := by omega
      have hqn : q < n := by omega
      rw [← hqe] at hry
      generalize (i + tt) % n = p at *
      obtain ⟨g, o, e, x, hx, fx, d0, d1, d2, d3⟩ := (h.below hb).at_ hpn
      obtain ⟨g', o', e', y, hy, fy, -, -, -, -⟩ := (h.below hb).at_ hqn
      rw [hx] at hrx
      rw [hy] at hry
      have hxm := hml x (List.mem_of_getElem? hx)
      have hym := hml y (List.mem_of_getElem? hy)
      rw [drop_of hrx, List.foldl_cons] at fa
      rw [drop_of hry, List.foldl_cons] at fb
      have Fa := Lib.hid fa
      have Fb := Lib.hid fb
      have Ra := Lib.hid (put_is ra hxm).1
      have Rb := Lib.hid (put_is rb hym).1
      subst e
      have hp0 : (0 : Int) ≤ (p : Int) := by omega
      have hpi : (p : Int) < (n : Int) := by omega
      have hq0 : (0 : Int) ≤ (q : Int) := by omega
      have hqi : (q : Int) < (n : Int) := by omega
      have hsum : IntKind.i64.wrap ((i : Int) + (tt : Int)) = (i : Int) + (tt : Int) := by rw [IntKind.wrap_i64]; omega
      clear fa fb hrx hry hqe hll e' hmod
      go_wp2_with fail
      refine (put_ok wr A1 m1 c1 ca x ga.es ra hxm).mono ?_
      rintro e w3 ⟨v3, m3, rfl, ho3, hb3⟩
      obtain ⟨A3, c3, rfl, g3⟩ := got_of ho3 (mays_right Ra.out)
      have hB3 := below_step hb hb3 (Nat.le_refl _)
      have gb3 := gb.keep hb3
      have hbs3 := hB3.size
      obtain ⟨g', o', e', y', hy', fy', k0, k1, k2, k3⟩ := (h.below hB3).at_ hqn
      rw [hy] at hy'
      injection hy' with hy'
      subst hy'
      injection e' with e'
      injection e' with e1 e2
      subst e1 e2
      clear ga gb hb3 hb d0 d1 d2 d3 ho3
      go_wp2_with fail
      refine (put_ok w3 A2 m2 c2 cb y gb3.es rb hym).mono ?_
      rintro e w4 ⟨v4, m4, rfl, ho4, hb4⟩
      obtain ⟨A4, c4, rfl, g4⟩ := got_of ho4 (mays_right Rb.out)
      have g34 := g3.keep hb4
      go_wp2
      go_roundw
      case rel => exact ⟨i + 1, _, _, A3, m3, c3, A4, m4, c4, by omega, by go_num, rfl, rfl, g34.mono hbs, g4.mono hbs3, Ra.out, Rb.out, Fa.out, Fb.out, below_step hB3 hb4 (Nat.le_refl _)⟩
      case measure => simp [intOf]; omega
    · have hin : (n : Int) ≤ (i : Int) := by omega
      have hd1 : (l.drop tt ++ l.take tt).drop i = [] := List.drop_of_length_le (by have := Hl.out; simp; omega)
      have hd2 : l.reverse.drop i = [] := List.drop_of_length_le (by have := Hl.out; simp; omega)
      rw [hd1] at fa
      rw [hd2] at fb
      have hca : ca = l := fa
      have hcb : cb = l := fb
      have gal : Got wr w.heap.size A1 m1 c1 l := hca ▸ ga
      have gbl : Got wr w.heap.size A2 m2 c2 l := hcb ▸ gb
      have hel := h.below hb
      clear fa fb hd1 hd2 hca hcb ga gb h
      go_wp2_with fail
      refine (same_ wr A1 A2 m1 m2 c1 c2 l gal.es gbl.es gal.le).mono ?_
      rintro e w5 ⟨k5, rfl, rfl⟩
      go_wp2_with fail
      refine (same_ _ A1 A m1 n c1 c l (gal.drewN k5).es (hel.drewN k5) gal.le).mono ?_
      rintro e w6 ⟨k6, rfl, rfl⟩
      go_wp2_with fail
      refine (alive_ _).mono ?_
      rintro e w7 ⟨rfl, hb7⟩
      go_wp2
      go_ret
      exact ⟨rfl, below_step hb (⟨hb7.os, hb7.tape, hb7.output, hb7.size, hb7.block⟩ : Below wr.heap.size wr w7) (Nat.le_refl _)⟩
theorem emapOrder_walk (w : World) (A : Option Addr) (n c : Nat) (l : List Ext) (h : Es w A n l) (hn : n ≤ 9223372036854775807) (t : Int) (ht : I64 t) :
    Calls Try.prog 7 #[.slice A n c, .int .i64 t] w fun e w' => e = .returned (.bool true) ∧ Below w.heap.size w w' := by
  by_cases hb : rightB l = true ∧ 0 < n ∧ n ≤ 60
  · exact emapOrder_ok w A n c l h hn t hb.1 hb.2.1 hb.2.2 ht
  · exact emapOrder_no w A n c l h hn t hb


set_option maxRecDepth 100000 in
theorem emapOrder_lifted (os : Os) (started : os.Started) (H : Type) (enc : TypeId × Value → H) :
    ReturnsInHanded {} Try.checked os 7 .any (Rows.emapOrderSpec.pre6 enc Try.prog Try.f7 Rows.emapOrderRow.domain false) (Rows.emapOrderSpec.post enc Try.prog Try.f7 false true false false) := by
  refine law_lifted (C := Try.checked) (tb := 4) own_ started (by kernel_rfl) Try.func7
    (ChangeSpec.witness6 (enc := enc) (C := Try.checked) false ⟨#[], #[.slice none 0 0, .int .i64 0], []⟩ 8 (by kernel_rfl) (by kernel_rfl) (by kernel_rfl) (by kernel_rfl))
    rfl rfl Try.underlying4 laidOut_ (by kernel_rfl) (fun ds h => by match ds, h with | [_, _], _ => rfl) ?_
  intro W base args ds p hval0 hA0 _ hsz0
  have hval : ∀ (j : Nat) t v, Try.f7.params[j]? = some t → args[j]? = some v → Value.okWide Try.prog W .any base t v := hval0
  have hA : DataW.TrodAll enc Try.prog W 0 (fun _ => true) true Try.f7.params.toList args.toList ds p := hA0
  have hsz : (DataW.weightsEach Try.prog Try.f7.params.toList ds).all (· ≤ reachBytes) = true := hsz0
  clear hval0 hA0 hsz0
  rw [Try.params7] at hA hval hsz
  obtain ⟨v0, v1, d0, d1, p0, p1, rfl, rfl, rfl, h0, h1⟩ := trodAll_two hA
  obtain ⟨A0, n0, c0, xs0, rfl, r0, b0⟩ := arg_slice ops_exts Try.underlying22 (hval 0 _ v0 rfl rfl) h0 (weight_at hsz (j := 0) rfl rfl)
  obtain ⟨z1, rfl, hz1⟩ := arg_int _ _ Try.underlying3 (hval 1 _ v1 rfl rfl) h1 wf_i64
  obtain ⟨es0, hn0, hc0, _⟩ := exts_es r0
  exact emapOrder_walk W A0 n0 c0 _ es0 (by omega) z1 hz1

/-- EmapOrder, for every input: the statement as it was given. -/
theorem emapOrder_holds : Rows.EmapOrderSaid :=
  OpenClaim.holds_of_wide 7 Try.f7 rfl rfl rfl rfl rfl rfl rfl ⟨rfl, rfl, rfl, rfl, rfl⟩ rfl rfl rfl rfl rfl (by kernel_rfl) Try.func7 (by kernel_rfl)
    (of_decide_eq_true (by kernel_rfl)) (by unfold Func.isWrapper; first | (rw [if_pos (by decide +kernel)]; kernel_rfl) | (rw [if_neg (by decide +kernel)]; exact ⟨rfl, rfl⟩))
    (fun os started H enc _ => emapOrder_lifted os started H enc)
end Go.Proofs.Ytechbmppbmppdaa
