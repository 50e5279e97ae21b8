/- DeltaGrows: a list to which something was done, all with a younger Birth, has grown from what it was, and what has been done lies in what is young: for every input. -/
import Derived.Test.YtfdfjnepfgabaaaDelMk
set_option linter.all false
namespace Go.Proofs.Ytfdfjnepfgabaaa
open Go.ChangeShapes Go.WideShapes Go.ChangeAt Go.RowKit

/-! ### scripts -/
abbrev Act9V : Type := Bool × ExtV × Unit
def act9Shp : Shp Act9V := Shp.agg (Shp.pair Shp.bool (Shp.pair extShp Shp.unit))
def act9C (ct : Bool) (x : Ext) : Array Value := #[.bool ct, .int .i64 x.off, .int .i64 x.len, .int .i64 x.phys, .int .i64 x.birth]
theorem act9_is {w : World} {cs : List Value} {a : Act9V} (h : act9Shp.R w cs a) : cs = (act9C a.1 (toExt a.2.1)).toList ∧ Fit (toExt a.2.1) := by
  obtain ⟨c1, r1, rfl, hl1, h1, c3, r3, rfl, hl3, h3, h4⟩ := h
  have h1 : c1 = [.bool a.1] := h1
  have h4 : r3 = [] := h4
  obtain ⟨e3, f3⟩ := ext_is h3
  subst h1 h4 e3
  exact ⟨rfl, f3⟩
theorem acts9_len {w : World} {A : Option Addr} {n c : Nat} {l : List Act9V} (h : (Shp.slice act9Shp 40).R w [.slice A n c] l) : n ≤ 9223372036854775807 ∧ n ≤ c ∧ (A = none → c = 0) := by
  obtain ⟨A', c', e, h1, h2, h3, h4, h5⟩ := h
  simp only [List.cons.injEq, Value.slice.injEq, and_true] at e
  obtain ⟨rfl, rfl, rfl⟩ := e
  exact ⟨by omega, h1, h4⟩
theorem acts9_later {W w : World} {S : Option Addr} {n c : Nat} {l : List Act9V} (h : (Shp.slice act9Shp 40).R W [.slice S n c] l) (hb : Below W.heap.size W w) {k : Nat} (hk : k < n) :
    ∃ b o, S = some ⟨b, o, none⟩ ∧ ∃ (ct : Bool) (x : Ext), Fit x ∧
      w.cell? ⟨b, o + k * 5, none⟩ = some (.bool ct) ∧ w.cell? ⟨b, o + k * 5 + 1, none⟩ = some (.int .i64 x.off) ∧ w.cell? ⟨b, o + k * 5 + 2, none⟩ = some (.int .i64 x.len) ∧ w.cell? ⟨b, o + k * 5 + 3, none⟩ = some (.int .i64 x.phys) ∧ w.cell? ⟨b, o + k * 5 + 4, none⟩ = some (.int .i64 x.birth) := by
  obtain ⟨A', c', e, h1, h2, h3, h4, h5⟩ := h
  simp only [List.cons.injEq, Value.slice.injEq, and_true] at e
  obtain ⟨rfl, rfl, rfl⟩ := e
  obtain ⟨b, o, vs, rfl, hl, hc, hr⟩ := h5 k hk
  obtain ⟨rfl, q2⟩ := act9_is hr
  have hc' : ∀ (j : Nat) u, (act9C l[k].1 (toExt l[k].2.1)).toList[j]? = some u → w.cell? ⟨b, o + k * 5 + j, none⟩ = some u := fun j u hu => (hb.cell (cell_lt (hc j u hu))).trans (hc j u hu)
  exact ⟨b, o, rfl, _, _, q2, hc' 0 _ rfl, hc' 1 _ rfl, hc' 2 _ rfl, hc' 3 _ rfl, hc' 4 _ rfl⟩
theorem ops_act9 : Opens Try.prog 59 act9Shp :=
  opens_struct Try.underlying59 (by kernel_rfl) (opensF_cons (opens_bool Try.underlying4 (by kernel_rfl)) rfl (opensF_cons ops_ext rfl (opensF_nil _)))
theorem ops_acts9 : Opens Try.prog 54 (Shp.slice act9Shp 40) := opens_slice 40 Try.underlying54 (by kernel_rfl) (by kernel_rfl) (by decide) ops_act9
abbrev FromV : Type := List ExtV × Int × Unit
def fromShp : Shp FromV := Shp.agg (Shp.pair (Shp.slice extShp 32) (Shp.pair iShp Shp.unit))
theorem fromU {w : World} {cs : Array Value} {v : FromV} (h : fromShp.R w cs.toList v) : ∃ A n c, cs = #[.slice A n c, .int .i64 v.2.1] ∧ (Es w A n (v.1.map toExt) ∧ n ≤ 9223372036854775807) ∧ I64 v.2.1 := by
  obtain ⟨k1, r1, hcs, hl1, h1, k2, r2, rfl, hl2, ⟨h2, b2⟩, h3⟩ := h
  have h3 : r2 = [] := h3
  subst h3 h2
  have h1' := h1
  obtain ⟨A1, c1, e1, _⟩ := h1
  subst e1
  exact ⟨A1, _, c1, Array.toList_inj.1 (by rw [hcs]; rfl), esU h1', b2⟩
theorem ops_from : Opens Try.prog 53 fromShp := opens_struct Try.underlying53 (by kernel_rfl) (opensF_cons ops_exts rfl (opensF_cons ops_int rfl (opensF_nil _)))
set_option maxRecDepth 100000 in
set_option maxHeartbeats 4000000 in
theorem deltaGrows_walk (w : World) (A : Option Addr) (n c : Nat) (l : List Ext) (ha : Es w A n l) (hn : n ≤ 9223372036854775807) (gen : Int) (hz : I64 gen) (S : Option Addr) (sn sc : Nat) (sl : List Act9V) (hs : (Shp.slice act9Shp 40).R w [.slice S sn sc] sl) (U : Option Addr) (k dd : Nat) (u : List Nat) (hu : Ns w U k u) (hk : k ≤ 9223372036854775807) :
    Calls Try.prog 7 #[.agg #[.slice A n c, .int .i64 gen], .slice S sn sc, .slice U k dd] w fun e w' => e = .returned (.bool true) ∧ Below w.heap.size w w' := by
  unfold I64 at hz
  have hx1 : Below w.heap.size w (w.alloc (.cells #[.slice A n c, .int .i64 gen] 53)) := (Below.refl _ _).alloc (Nat.le_refl _) _
  have k1 := Blk.new w 53 #[.slice A n c, .int .i64 gen] rfl
  have c0 := k1.cell (j := 0) (u := .slice A n c) rfl
  have c1 := k1.cell (j := 1) (u := .int .i64 gen) rfl
  obtain ⟨hsn, hsc, hS0⟩ := acts9_len hs
  go_enter Try.func7, Try.ntmps7
  go_wp2_with fail
  obtain ⟨w1, hw1⟩ : ∃ w1, w1 = w.alloc (.cells #[.slice A n c, .int .i64 gen] 53) := ⟨_, rfl⟩
  rw [← hw1] at hx1 c0 c1 ⊢
  clear k1 hw1
  go_quiet (fail)
  have hB1 : Below w.heap.size w (w1.drewN nq) := below_drewN hx1 nq
  generalize w1.drewN nq = w2 at *
  clear hx1 c0 c1
  go_wp2_with fail
  refine (rright_ _ A n c l (ha.below hB1) hn).mono ?_
  have hal : ∀ (w3 : World), Below w.heap.size w w3 → True := fun _ _ => trivial
  cases hr : rightB l with
  | false =>
    rintro e w3 ⟨rfl, hb3⟩
    have hB3 := below_step hB1 hb3 (Nat.le_refl _)
    go_wp2_with fail
    refine (alive9_ _).mono ?_
    rintro e w4 ⟨rfl, hb4⟩
    go_wp2
    go_ret
    exact ⟨rfl, below_step hB3 hb4 (Nat.le_refl _)⟩
  | true =>
    rintro e w3 ⟨rfl, hb3⟩
    have hB3 := below_step hB1 hb3 (Nat.le_refl _)
    clear hb3 hB1
    by_cases hg0 : 0 ≤ gen
    · by_cases hg1 : gen < 1099511627776
      · have hmin : min (sn : Int) 100 = ((min sn 100 : Nat) : Int) := by omega
        have hmc : ((min sn 100 : Nat) : Int) ≤ (sc : Int) := by omega
        have hmc2 : min sn 100 ≤ sc := by omega
        have hms : min sn 100 ≤ sn := Nat.min_le_left _ _
        have hm1 : min sn 100 ≤ 100 := Nat.min_le_right _ _
        generalize min sn 100 = m at *
        go_wp2_with fail
        have hw1 : IntKind.i64.wrap (gen + 1) = gen + 1 := by rw [IntKind.wrap_i64]; omega
        go_loopw [9, 45] (fun bv iv wr => ∃ (i : Nat) (A9 : Option Addr) (n9 c9 : Nat) (lb : List Ext), i ≤ m ∧ iv = .int .i64 (i : Int) ∧ bv = .slice A9 n9 c9 ∧ Es wr A9 n9 lb ∧ n9 ≤ 9223372036854775807 ∧ Hid (rightB lb = true ∧ grownL l lb gen) ∧ Below w.heap.size w wr) (fun _ iv _ => m - (intOf iv).toNat)
        case atStart => exact ⟨0, A, n, c, l, Nat.zero_le _, rfl, rfl, ha.below hB3, hn, Lib.hid ⟨hr, grown_refl l gen⟩, hB3⟩
        case round =>
          obtain ⟨i, A9, n9, c9, lb, hi, rfl, rfl, he9, hn9, hlb, hb⟩ := hrel
          by_cases hlt : i < m
          · have hil : (i : Int) < (m : Int) := by omega
            have hi0 : (0 : Int) ≤ (i : Int) := by omega
            obtain ⟨bs, os, rfl, ct, x, fx, d0, d1, d2, d3, d4⟩ := acts9_later hs hb (show i < sn by omega)
            obtain ⟨fo, fl, fp, fb⟩ := fx.all
            have fx2 : Fit { x with birth := gen + 1 } := ⟨fx.off, fx.len, fx.phys, by unfold I64; simp only; omega⟩
            have hx : Below wr.heap.size wr (wr.alloc (.cells #[.bool ct, .int .i64 x.off, .int .i64 x.len, .int .i64 x.phys, .int .i64 (gen + 1)] 59)) := (Below.refl _ _).alloc (Nat.le_refl _) _
            have kx := Blk.new wr 59 #[.bool ct, .int .i64 x.off, .int .i64 x.len, .int .i64 x.phys, .int .i64 (gen + 1)] rfl
            have hex := he9.below hx
            have hbx := below_step hb hx (Nat.le_refl _)
            go_wp2_with fail
            refine (rput_ _ A9 n9 c9 lb hex hn9 ⟨x.off, x.len, x.phys, gen + 1⟩ fx2).mono ?_
            rw [hlb.out.1, Bool.true_and]
            have Hput := Lib.hid fun (hm : Ext.may ⟨x.off, x.len, x.phys, gen + 1⟩ = true) => (⟨(put_is hlb.out.1 hm).1, grown_put hlb.out.2 hlb.out.1 hm (by simp only; omega)⟩ : rightB (putL lb ⟨x.off, x.len, x.phys, gen + 1⟩) = true ∧ grownL l (putL lb ⟨x.off, x.len, x.phys, gen + 1⟩) gen)
            rintro e w5 ⟨A5, m5, c5, rfl, hG5, hb5⟩
            have k5 := kx.keep hb5
            have he5 := hex.below hb5
            have hB5 := below_step hbx hb5 (Nat.le_refl _)
            have g0 := k5.cell (j := 0) (u := .bool ct) rfl
            have g1 := k5.cell (j := 1) (u := .int .i64 x.off) rfl
            have g2 := k5.cell (j := 2) (u := .int .i64 x.len) rfl
            clear hx kx hex hbx hb5 d0 d1 d2 d3 d4
            cases ct with
            | false =>
              cases hm : Ext.may ⟨x.off, x.len, x.phys, gen + 1⟩ with
              | true =>
                rw [hm] at hG5
                have Hp := Lib.hid (Hput.out hm)
                have he6 : Es w5 A5 m5 (putL lb ⟨x.off, x.len, x.phys, gen + 1⟩) := hG5.es
                have hm6 := hG5.le
                unfold errOf
                clear hm hG5 Hput
                go_wp2
                go_roundw
                case rel => exact ⟨i + 1, A5, m5, c5, _, by omega, by go_num, rfl, he6, hm6, Hp, hB5⟩
                case measure => simp [intOf]; omega
              | false =>
                unfold errOf
                clear hm hG5 Hput
                go_wp2
                go_roundw
                case rel => exact ⟨i + 1, A9, n9, c9, lb, by omega, by go_num, rfl, he5, hn9, hlb, hB5⟩
                case measure => simp [intOf]; omega
            | true =>
              go_wp2_with fail
              refine (rcut_ _ A9 n9 c9 lb he5 hn9 x.off x.len fx.off fx.len).mono ?_
              rw [hlb.out.1, Bool.true_and]
              have Hcut := Lib.hid fun (hm : rangeB x.off x.len = true) => (⟨(cut_is hlb.out.1 hm).1, grown_cut hlb.out.2 hlb.out.1 hm⟩ : rightB (cutL lb x.off x.len) = true ∧ grownL l (cutL lb x.off x.len) gen)
              rintro e w6 ⟨A6, m6, c6, rfl, hG6, hb6⟩
              have he6 := he5.below hb6
              have hB6 := below_step hB5 hb6 (Nat.le_refl _)
              clear hb6 g0 g1 g2 k5 hG5 he5 hB5 Hput
              cases hm : rangeB x.off x.len with
              | true =>
                rw [hm] at hG6
                have Hp := Lib.hid (Hcut.out hm)
                have he7 : Es w6 A6 m6 (cutL lb x.off x.len) := hG6.es
                have hm6 := hG6.le
                unfold errOf
                clear hm hG6 Hcut he6
                go_wp2
                go_roundw
                case rel => exact ⟨i + 1, A6, m6, c6, _, by omega, by go_num, rfl, he7, hm6, Hp, hB6⟩
                case measure => simp [intOf]; omega
              | false =>
                unfold errOf
                clear hm hG6 Hcut
                go_wp2
                go_roundw
                case rel => exact ⟨i + 1, A9, n9, c9, lb, by omega, by go_num, rfl, he6, hn9, hlb, hB6⟩
                case measure => simp [intOf]; omega
          · have hin : (m : Int) ≤ (i : Int) := by omega
            have Hap := Lib.hid (ap_delta hlb.out.2 u)
            have Hop := Lib.hid (op_ok hr hlb.out.1 gen u)
            have Hva := Lib.hid (vw_ok hr u)
            have Hvb := Lib.hid (vw_ok hlb.out.1 u)
            have Hgr := Lib.hid (grB_iff.2 ⟨hr, hlb.out.1, hlb.out.2⟩)
            clear hlb
            go_wp2_with fail
            refine (Ops_ _ A A9 n c n9 c9 l lb gen U k dd u (ha.below hb) he9 hn hn9 (hu.below hb) hk).mono ?_
            rw [Hop.out.1, Hop.out.2]
            rintro e w5 ⟨A5, m5, c5, rfl, hG5, hb5⟩
            have hB5 := below_step hb hb5 (Nat.le_refl _)
            have he5 := he9.below hb5
            clear hb5 he9 hb
            go_wp2_with fail
            refine (view_ _ A n c l 1024 U k dd u (ha.below hB5) hn (by unfold I64; omega) (hu.below hB5) hk).mono ?_
            rw [Hva.out.1, Hva.out.2]
            rintro e w6 ⟨A6, m6, c6, rfl, hG6, hb6⟩
            have hB6 := below_step hB5 hb6 (Nat.le_refl _)
            have he6 := he5.below hb6
            have hG5' := hG5.keep hb6
            clear hb6 he5 hB5 hG5
            go_wp2_with fail
            refine (view_ _ A9 n9 c9 lb 1024 U k dd u he6 hn9 (by unfold I64; omega) (hu.below hB6) hk).mono ?_
            rw [Hvb.out.1, Hvb.out.2]
            rintro e w7 ⟨A7, m7, c7, rfl, hG7, hb7⟩
            have hB7 := below_step hB6 hb7 (Nat.le_refl _)
            have he7 := he6.below hb7
            have hG5 := hG5'.keep hb7
            have hG6' := hG6.keep hb7
            have hm6 : m6 = 1024 := by have := hG6'.ns.len; rw [vol_len] at this; exact this
            subst hm6
            have hm5 : m5 ≤ 9223372036854775807 := by have := hG5.bounds; omega
            clear hb7 he6 hB6 hG5' hG6
            go_wp2_with fail
            refine (Blo.rapply_ _ A6 1024 c6 _ hG6'.ns (by omega) A5 m5 c5 _ hG5.os hm5).mono ?_
            rw [Hap.out.1, Hap.out.2]
            rintro e w8 ⟨A8, m8, c8, rfl, hG8, hb8⟩
            have hB8 := below_step hB7 hb8 (Nat.le_refl _)
            have he8 := he7.below hb8
            have hG7' := hG7.keep hb8
            have hm7 : m7 ≤ 9223372036854775807 := by have := hG7'.bounds; omega
            have hn7 := hG7'.ns
            have hn8 := hG8.ns
            clear hb8 he7 hB7 hG5 hG6' hG7 hG7' hG8
            go_wp2_with fail
            refine (Grown_ _ A A9 n c n9 c9 l lb gen (ha.below hB8) he8 hn hn9).mono ?_
            rw [Hgr.out]
            rintro e w9 ⟨rfl, hb9⟩
            have hB9 := below_step hB8 hb9 (Nat.le_refl _)
            have hn9a := hn7.below hb9
            have hn9b := hn8.below hb9
            clear hb9 hB8 he8 hn7 hn8
            go_wp2_with fail
            refine (words_eq _ A7 A8 m7 m8 c7 c8 _ hn9a hn9b hm7).mono ?_
            rintro e w10 ⟨rfl, hb10⟩
            have hB10 := below_step hB9 hb10 (Nat.le_refl _)
            clear hn9a hn9b
            go_wp2_with fail
            refine (alive9_ _).mono ?_
            rintro e w11 ⟨rfl, hb11⟩
            go_wp2
            go_ret
            exact ⟨rfl, below_step hB10 hb11 (Nat.le_refl _)⟩
      · have hg2 : (1099511627776 : Int) ≤ gen := by omega
        go_wp2_with fail
        refine (alive9_ _).mono ?_
        rintro e w4 ⟨rfl, hb4⟩
        go_wp2
        go_ret
        exact ⟨rfl, below_step hB3 hb4 (Nat.le_refl _)⟩
    · have hg2 : gen < 0 := by omega
      go_wp2_with fail
      refine (alive9_ _).mono ?_
      rintro e w4 ⟨rfl, hb4⟩
      go_wp2
      go_ret
      exact ⟨rfl, below_step hB3 hb4 (Nat.le_refl _)⟩

set_option maxRecDepth 100000 in
theorem deltaGrows_lifted (os : Os) (started : os.Started) (H : Type) (enc : TypeId × Value → H) :
    ReturnsInHanded {} Try.checked os 7 .any (Rows.deltaGrowsSpec.pre6 enc Try.prog Try.f7 Rows.deltaGrowsRow.domain false) (Rows.deltaGrowsSpec.post enc Try.prog Try.f7 false true false false) := by
  refine law_lifted (C := Try.checked) (tb := 4) own_ started (by kernel_rfl) Try.func7
    (ChangeSpec.witness6 (enc := enc) (C := Try.checked) false ⟨#[], #[.agg #[.slice none 0 0, .int .i64 0], .slice none 0 0, .slice none 0 0], []⟩ 8 (by kernel_rfl) (by kernel_rfl) (by kernel_rfl) (by kernel_rfl))
    rfl rfl Try.underlying4 laidOut_ (by kernel_rfl) (fun ds h => by match ds, h with | [_, _, _], _ => rfl) ?_
  intro W base args ds p hval0 hA0 _ hsz0
  have hval : ∀ (j : Nat) t v, Try.f7.params[j]? = some t → args[j]? = some v → Value.okWide Try.prog W .any base t v := hval0
  have hA : DataW.TrodAll enc Try.prog W 0 (fun _ => true) true Try.f7.params.toList args.toList ds p := hA0
  have hsz : (DataW.weightsEach Try.prog Try.f7.params.toList ds).all (· ≤ reachBytes) = true := hsz0
  clear hval0 hA0 hsz0
  rw [Try.params7] at hA hval hsz
  obtain ⟨v0, v1, v2, d0, d1, d2, p0, p1, p2, rfl, rfl, rfl, h0, h1, h2⟩ := trodAll_three hA
  obtain ⟨cs0, a0, rfl, r0, b0⟩ := arg_struct ops_from Try.underlying53 (hval 0 _ v0 rfl rfl) h0 (weight_at hsz (j := 0) rfl rfl)
  obtain ⟨A1, n1, c1, xs1, rfl, r1, b1⟩ := arg_slice ops_acts9 Try.underlying54 (hval 1 _ v1 rfl rfl) h1 (weight_at hsz (j := 1) rfl rfl)
  obtain ⟨A2, n2, c2, xs2, rfl, r2, b2⟩ := arg_slice Blo.ops_ns Try.underlying23 (hval 2 _ v2 rfl rfl) h2 (weight_at hsz (j := 2) rfl rfl)
  obtain ⟨A, n, c, rfl, ⟨q1, q2⟩, q3⟩ := fromU r0
  obtain ⟨p1, p2⟩ := nsU r2
  exact deltaGrows_walk W A n c _ q1 q2 _ q3 A1 n1 c1 _ r1 A2 n2 c2 _ p1 p2

/-- DeltaGrows, for every input: the statement as it was given. -/
theorem deltaGrows_holds : Rows.DeltaGrowsSaid :=
  OpenClaim.holds_of_wide 7 Try.f7 rfl rfl rfl rfl rfl rfl rfl ⟨rfl, rfl, rfl, rfl, rfl⟩ rfl rfl rfl rfl rfl (by kernel_rfl) Try.func7 (by kernel_rfl)
    (of_decide_eq_true (by kernel_rfl)) (by unfold Func.isWrapper; first | (rw [if_pos (by decide +kernel)]; kernel_rfl) | (rw [if_neg (by decide +kernel)]; exact ⟨rfl, rfl⟩))
    (fun os started H enc _ => deltaGrows_lifted os started H enc)
end Go.Proofs.Ytfdfjnepfgabaaa
