/- DeltaYoung: two blocks that are unlike in what they show are young, if one list has grown from the other one: for every input. -/
import Derived.Test.YtfdfjnepfgabaaaDelMk
set_option linter.all false
namespace Go.Proofs.Ytfdfjnepfgabaaa
open Go.ChangeShapes Go.WideShapes Go.ChangeAt Go.RowKit

def inP (l : List (Int × Int)) (i : Int) : Bool := l.any fun q => decide (q.1 ≤ i) && decide (i < q.2)
theorem inP_snoc (l : List (Int × Int)) (q : Int × Int) (i : Int) : inP (l ++ [q]) i = (inP l i || (decide (q.1 ≤ i) && decide (i < q.2))) := by simp [inP]
theorem inP_runs {y : Nat → Bool} {n i : Nat} (hi : i < n) : inP (runsTo y n) (i : Int) = y i := by
  cases hy : y i with
  | true =>
    obtain ⟨q, hq, h1, h2⟩ := (runs_has y n i).2 ⟨hi, hy⟩
    exact List.any_eq_true.2 ⟨q, hq, by simp [h1, h2]⟩
  | false =>
    cases hp : inP (runsTo y n) (i : Int) with
    | false => rfl
    | true =>
      obtain ⟨q, hq, h1⟩ := List.any_eq_true.1 hp
      simp only [Bool.and_eq_true, decide_eq_true_eq] at h1
      have := (runs_has y n i).1 ⟨q, hq, h1.1, h1.2⟩
      rw [hy] at this
      cases this.2
theorem unlike_in {a b : List Ext} {gen : Int} (h : grownL a b gen) (u : List Nat) {i : Nat} (hi : i < 1024) (hn : showF a u (i : Int) ≠ showF b u (i : Int)) : youngF a b gen i = true := by
  cases hy : youngF a b gen i with
  | true => rfl
  | false => exact absurd (unlike_young (units := u) (h i hi) hy) hn
/-- A piece's cells. -/
theorem p_at {w : World} {A : Option Addr} {n : Nat} {l : List (Int × Int)} (h : Rd w A 3 n (pvs l)) {k : Nat} (hk : k < n) :
    ∃ b o q, A = some ⟨b, o, none⟩ ∧ l[k]? = some q ∧ w.cell? ⟨b, o + k * 3, none⟩ = some (.int .i64 q.1) ∧ w.cell? ⟨b, o + k * 3 + 1, none⟩ = some (.int .i64 q.2) ∧ w.cell? ⟨b, o + k * 3 + 2, none⟩ = some (.int .i64 0) := by
  have hl : k < l.length := by have := h.1; rw [pvs_len] at this; omega
  have g : ∀ j (u : Value), (pv l[k])[j]? = some u → ∃ b o, A = some ⟨b, o, none⟩ ∧ w.cell? ⟨b, o + k * 3 + j, none⟩ = some u := fun j u hu => by
    have hj : j < 3 := by have := (List.getElem?_eq_some_iff.1 hu).1; simpa [pv] using this
    obtain ⟨b, o, e, hc⟩ := h.2 (k * 3 + j) u (by rw [pvs_at hl hj]; exact hu)
    exact ⟨b, o, e, by rw [Nat.add_assoc]; exact hc⟩
  obtain ⟨b, o, e, c0⟩ := g 0 _ rfl
  have g' : ∀ j (u : Value), (pv l[k])[j]? = some u → w.cell? ⟨b, o + k * 3 + j, none⟩ = some u := fun j u hu => by
    obtain ⟨b2, o2, e', hc⟩ := g j u hu
    rw [e] at e'
    injection e' with e'
    injection e' with e1 e2
    subst e1 e2
    exact hc
  exact ⟨b, o, l[k], e, List.getElem?_eq_getElem hl, c0, g' 1 _ rfl, g' 2 _ rfl⟩
set_option maxRecDepth 100000 in
set_option maxHeartbeats 4000000 in
theorem deltaYoung_walk (w : World) (A B : Option Addr) (n c m d : Nat) (a b : List Ext) (ha : Es w A n a) (hn : n ≤ 9223372036854775807) (hb : Es w B m b) (hm : m ≤ 9223372036854775807) (gen : Int) (hz : I64 gen) (U : Option Addr) (k dd : Nat) (u : List Nat) (hu : Ns w U k u) (hk : k ≤ 9223372036854775807) :
    Calls Try.prog 6 #[.agg #[.slice A n c, .slice B m d], .int .i64 gen, .slice U k dd] w fun e w' => e = .returned (.bool true) ∧ Below w.heap.size w w' := by
  have hx1 := below_two w A B n c m d
  have k1 := Blk.new w 33 #[.slice A n c, .slice B m d] rfl
  have c0 := k1.cell (j := 0) (u := .slice A n c) rfl
  have c1 := k1.cell (j := 1) (u := .slice B m d) rfl
  go_enter Try.func6, Try.ntmps6
  go_wp2_with fail
  refine (Grown_ _ A B n c m d a b gen (ha.below hx1) (hb.below hx1) hn hm).mono ?_
  cases hg : grB a b gen with
  | false =>
    rintro e w2 ⟨rfl, hb2⟩
    have hB2 := below_step hx1 hb2 (Nat.le_refl _)
    go_wp2_with fail
    refine (alive9_ _).mono ?_
    rintro e w3 ⟨rfl, hb3⟩
    go_wp2
    go_ret
    exact ⟨rfl, below_step hB2 hb3 (Nat.le_refl _)⟩
  | true =>
    obtain ⟨hra, hrb, hgr⟩ := grB_iff.1 hg
    have Hun := Lib.hid fun (i : Nat) (hi : i < 1024) => unlike_in hgr u (i := i) hi
    have Hop := Lib.hid (op_ok hra hrb gen u)
    have Hyo := Lib.hid (show yoL a b gen = runsTo (youngF a b gen) 1024 by unfold yoL; rw [hra, hrb]; rfl)
    have Hva := Lib.hid (vw_ok hra u)
    have Hvb := Lib.hid (vw_ok hrb u)
    rintro e w2 ⟨rfl, hb2⟩
    have hB2 := below_step hx1 hb2 (Nat.le_refl _)
    have k2 := k1.keep hb2
    have c0 := k2.cell (j := 0) (u := .slice A n c) rfl
    have c1 := k2.cell (j := 1) (u := .slice B m d) rfl
    clear k1 hb2 hx1 hg hgr hra hrb
    go_wp2_with fail
    refine (Young_ _ A B n c m d a b gen (ha.below hB2) (hb.below hB2) hn hm).mono ?_
    rw [Hop.out.1, Hyo.out]
    generalize youngF a b gen = y at *
    rintro e w3 ⟨A3, m3, c3, rfl, hP3, hb3⟩
    have hB3 := below_step hB2 hb3 (Nat.le_refl _)
    have k3 := k2.keep hb3
    have c0 := k3.cell (j := 0) (u := .slice A n c) rfl
    have c1 := k3.cell (j := 1) (u := .slice B m d) rfl
    have hm3 : m3 ≤ 1024 := by
      have h1 := po_len hP3
      have h2 := runs_len y 1024
      omega
    clear k2 hb3 hB2
    go_wp2_with fail
    refine (view_ _ A n c a 1024 U k dd u (ha.below hB3) hn (by unfold I64; omega) (hu.below hB3) hk).mono ?_
    rw [Hva.out.1, Hva.out.2]
    rintro e w4 ⟨A4, m4, c4, rfl, hG4, hb4⟩
    have hB4 := below_step hB3 hb4 (Nat.le_refl _)
    have k4 := k3.keep hb4
    have hP4 := own_keep hP3 hb4
    have c1 := k4.cell (j := 1) (u := .slice B m d) rfl
    clear k3 hb4 hB3 hP3
    go_wp2_with fail
    refine (view_ _ B m d b 1024 U k dd u (hb.below hB4) hm (by unfold I64; omega) (hu.below hB4) hk).mono ?_
    rw [Hvb.out.1, Hvb.out.2]
    rintro e w5 ⟨A5, m5, c5, rfl, hG5, hb5⟩
    have hB5 := below_step hB4 hb5 (Nat.le_refl _)
    have hP5 := rd_own (own_keep hP4 hb5)
    have hG4' := hG4.keep hb5
    have hm4 : m4 = 1024 := by have := hG4'.ns.len; rw [vol_len] at this; exact this
    have hm5 : m5 = 1024 := by have := hG5.ns.len; rw [vol_len] at this; exact this
    subst hm4 hm5
    have hn4 := hG4'.ns
    have hn5 := hG5.ns
    have Hpl := Lib.hid (show m3 = (runsTo y 1024).length by have := hP5.1; rw [pvs_len] at this; omega)
    have Hpi := Lib.hid fun (i : Nat) (hi : i < 1024) => inP_runs (y := y) hi
    clear k4 hb5 hB4 hP4 hG4 hG4' hG5
    generalize runsTo y 1024 = pl at *
    go_wp2_with fail
    go_loopw [70] (fun iv wr => ∃ i : Nat, i ≤ 1024 ∧ iv = .int .i64 (i : Int) ∧ Ns wr A4 1024 (Blo.vol 1024 (showF a u)) ∧ Ns wr A5 1024 (Blo.vol 1024 (showF b u)) ∧ Rd wr A3 3 m3 (pvs pl) ∧ Below w.heap.size w wr) (fun iv _ => 1024 - (intOf iv).toNat)
    case atStart => exact ⟨0, Nat.zero_le _, rfl, hn4, hn5, hP5, hB5⟩
    case round =>
      obtain ⟨i, hi, rfl, hn4, hn5, hP, hb⟩ := hrel
      clear hP5 hB5
      by_cases hlt : i < 1024
      · have hiI : (i : Int) < 1024 := by omega
        have hi0 : (0 : Int) ≤ (i : Int) := by omega
        go_wp2_with fail
        go_loopw [14, 75] (fun nv jv wx => ∃ j : Nat, j ≤ m3 ∧ jv = .int .i64 (j : Int) ∧ nv = .bool (inP (pl.take j) (i : Int)) ∧ Ns wx A4 1024 (Blo.vol 1024 (showF a u)) ∧ Ns wx A5 1024 (Blo.vol 1024 (showF b u)) ∧ Rd wx A3 3 m3 (pvs pl) ∧ Below w.heap.size w wx) (fun _ jv _ => m3 - (intOf jv).toNat)
        case atStart => exact ⟨0, Nat.zero_le _, rfl, rfl, hn4, hn5, hP, hb⟩
        case round =>
          obtain ⟨j, hj, rfl, rfl, hn4, hn5, hP, hb⟩ := hrel
          by_cases hjl : j < m3
          · have hjI : (j : Int) < (m3 : Int) := by omega
            have hj0 : (0 : Int) ≤ (j : Int) := by omega
            obtain ⟨bp, op, q, rfl, hq, d0, d1, d2⟩ := p_at hP hjl
            obtain ⟨q1, q2⟩ := q
            dsimp only at d0 d1
            have hsn := inP_snoc (pl.take j) (q1, q2) (i : Int)
            rw [← take_one hq] at hsn
            have hx := (Below.refl wr.heap.size wr).alloc (Nat.le_refl _) (.cells #[.int .i64 q1, .int .i64 q2, .int .i64 0] 50)
            have hn4' := hn4.below hx
            have hn5' := hn5.below hx
            have hP' := hP.below hx
            have hb' := below_step hb hx (Nat.le_refl _)
            clear hx hq
            cases ht : inP (pl.take j) (i : Int) with
            | true =>
              rw [ht] at hsn
              have Hsn := Lib.hid (show inP (pl.take (j + 1)) (i : Int) = true by rw [hsn]; rfl)
              clear hsn
              go_wp2
              go_roundw
              case rel => exact ⟨j + 1, by omega, by go_num, by rw [Hsn.out], hn4', hn5', hP', hb'⟩
              case measure => simp [intOf]; omega
            | false =>
              rw [ht, Bool.false_or] at hsn
              by_cases h1 : q1 ≤ (i : Int)
              · have hd1 : decide (q1 ≤ (i : Int)) = true := decide_eq_true h1
                by_cases h2 : (i : Int) < q2
                · have hd2 : decide ((i : Int) < q2) = true := decide_eq_true h2
                  have Hsn := Lib.hid (show inP (pl.take (j + 1)) (i : Int) = true by rw [hsn, hd1, hd2]; rfl)
                  clear hsn
                  go_wp2
                  go_roundw
                  case rel => exact ⟨j + 1, by omega, by go_num, by rw [Hsn.out], hn4', hn5', hP', hb'⟩
                  case measure => simp [intOf]; omega
                · have hd2 : decide ((i : Int) < q2) = false := decide_eq_false h2
                  have Hsn := Lib.hid (show inP (pl.take (j + 1)) (i : Int) = false by rw [hsn, hd1, hd2]; rfl)
                  clear hsn
                  go_wp2
                  go_roundw
                  case rel => exact ⟨j + 1, by omega, by go_num, by rw [Hsn.out], hn4', hn5', hP', hb'⟩
                  case measure => simp [intOf]; omega
              · have hd1 : decide (q1 ≤ (i : Int)) = false := decide_eq_false h1
                have Hsn := Lib.hid (show inP (pl.take (j + 1)) (i : Int) = false by rw [hsn, hd1]; rfl)
                clear hsn
                go_wp2
                go_roundw
                case rel => exact ⟨j + 1, by omega, by go_num, by rw [Hsn.out], hn4', hn5', hP', hb'⟩
                case measure => simp [intOf]; omega
          · have hjn : (m3 : Int) ≤ (j : Int) := by omega
            have hin : inP (pl.take j) (i : Int) = y i := by rw [List.take_of_length_le (by have := Hpl.out; omega)]; exact Hpi.out i hlt
            obtain ⟨ba, oa, rfl, e0, -⟩ := Blo.vol_cell hn4 hlt
            obtain ⟨bb, ob, rfl, e1, -⟩ := Blo.vol_cell hn5 hlt
            by_cases hne : showF a u (i : Int) = showF b u (i : Int)
            · have hne2 : ((((showF a u (i : Int) : Nat) : Int)) != (((showF b u (i : Int) : Nat) : Int))) = false := by simp [hne]
              rw [hin]
              generalize showF a u (i : Int) = x at *
              generalize showF b u (i : Int) = z at *
              clear hin hne
              go_wp2_with fail
              go_quiet (fail)
              go_wp2
              go_roundw
              case rel => exact ⟨i + 1, by omega, by go_num, hn4.drewN _, hn5.drewN _, hP, below_drewN hb _⟩
              case measure => simp [intOf]; omega
            · have hyi := Hun.out i hlt hne
              rw [hyi] at hin
              have hne2 : ((((showF a u (i : Int) : Nat) : Int)) != (((showF b u (i : Int) : Nat) : Int))) = true := by simp; omega
              have hne3 : ¬ ((((showF a u (i : Int) : Nat) : Int)) = (((showF b u (i : Int) : Nat) : Int))) := by omega
              rw [hin]
              generalize showF a u (i : Int) = x at *
              generalize showF b u (i : Int) = z at *
              clear hin hne hyi
              go_wp2_with fail
              go_quiet (fail)
              go_wp2
              go_roundw
              case rel => exact ⟨i + 1, by omega, by go_num, hn4.drewN _, hn5.drewN _, hP, below_drewN hb _⟩
              case measure => simp [intOf]; omega
      · have hge : (1024 : Int) ≤ (i : Int) := by omega
        go_wp2_with fail
        refine (alive9_ _).mono ?_
        rintro e w6 ⟨rfl, hb6⟩
        go_wp2
        go_ret
        exact ⟨rfl, below_step hb hb6 (Nat.le_refl _)⟩

set_option maxRecDepth 100000 in
theorem deltaYoung_lifted (os : Os) (started : os.Started) (H : Type) (enc : TypeId × Value → H) :
    ReturnsInHanded {} Try.checked os 6 .any (Rows.deltaYoungSpec.pre6 enc Try.prog Try.f6 Rows.deltaYoungRow.domain false) (Rows.deltaYoungSpec.post enc Try.prog Try.f6 false true false false) := by
  refine law_lifted (C := Try.checked) (tb := 4) own_ started (by kernel_rfl) Try.func6
    (ChangeSpec.witness6 (enc := enc) (C := Try.checked) false ⟨#[], #[.agg #[.slice none 0 0, .slice none 0 0], .int .i64 0, .slice none 0 0], []⟩ 8 (by kernel_rfl) (by kernel_rfl) (by kernel_rfl) (by kernel_rfl))
    rfl rfl Try.underlying4 laidOut_ (by kernel_rfl) (fun ds h => by match ds, h with | [_, _, _], _ => rfl) ?_
  intro W base args ds p hval0 hA0 _ hsz0
  have hval : ∀ (j : Nat) t v, Try.f6.params[j]? = some t → args[j]? = some v → Value.okWide Try.prog W .any base t v := hval0
  have hA : DataW.TrodAll enc Try.prog W 0 (fun _ => true) true Try.f6.params.toList args.toList ds p := hA0
  have hsz : (DataW.weightsEach Try.prog Try.f6.params.toList ds).all (· ≤ reachBytes) = true := hsz0
  clear hval0 hA0 hsz0
  rw [Try.params6] at hA hval hsz
  obtain ⟨v0, v1, v2, d0, d1, d2, p0, p1, p2, rfl, rfl, rfl, h0, h1, h2⟩ := trodAll_three hA
  obtain ⟨cs0, a0, rfl, r0, b0⟩ := arg_struct ops_two9 Try.underlying33 (hval 0 _ v0 rfl rfl) h0 (weight_at hsz (j := 0) rfl rfl)
  obtain ⟨z1, rfl, hz1⟩ := arg_int _ _ Try.underlying3 (hval 1 _ v1 rfl rfl) h1 wf_i64
  obtain ⟨A2, n2, c2, xs2, rfl, r2, b2⟩ := arg_slice Blo.ops_ns Try.underlying23 (hval 2 _ v2 rfl rfl) h2 (weight_at hsz (j := 2) rfl rfl)
  obtain ⟨A, n, c, B, m, d, rfl, ⟨q1, q2⟩, ⟨q3, q4⟩⟩ := twoU r0
  obtain ⟨p1, p2⟩ := nsU r2
  exact deltaYoung_walk W A B n c m d _ _ q1 q2 q3 q4 z1 hz1 A2 n2 c2 _ p1 p2

/-- DeltaYoung, for every input: the statement as it was given. -/
theorem deltaYoung_holds : Rows.DeltaYoungSaid :=
  OpenClaim.holds_of_wide 6 Try.f6 rfl rfl rfl rfl rfl rfl rfl ⟨rfl, rfl, rfl, rfl, rfl⟩ rfl rfl rfl rfl rfl (by kernel_rfl) Try.func6 (by kernel_rfl)
    (of_decide_eq_true (by kernel_rfl)) (by unfold Func.isWrapper; first | (rw [if_pos (by decide +kernel)]; kernel_rfl) | (rw [if_neg (by decide +kernel)]; exact ⟨rfl, rfl⟩))
    (fun os started H enc _ => deltaYoung_lifted os started H enc)
end Go.Proofs.Ytfdfjnepfgabaaa
