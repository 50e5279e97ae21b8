/- XBloO, XBloP, XBloQ, XBloR, XBloW. -/
import Derived.Test.YtdcggnfplfgcnaaBloN
import Derived.Deep.RegionLaw
set_option linter.all false
namespace Go.Proofs.Ytdcggnfplfgcnaa
open Go.RowKit
namespace Blo

theorem nvs_set (l : List Nat) (i x : Nat) : (nvs l).set i (.int .u64 (x : Int)) = nvs (l.set i x) := by simp [nvs, List.map_set]
theorem vol_set {n : Nat} {f g : Int → Nat} {i x : Nat} (h : g = fun q => if q = (i : Int) then x else f q) : (vol n f).set i x = vol n g := by
  subst h
  apply List.ext_getElem
  · simp [vol]
  · intro j h1 h2
    by_cases e : i = j
    · subst e; simp [vol]
    · rw [List.getElem_set_ne e]
      simp [vol]
      omega
/-- An op's first j blocks are done. -/
def doTo (f : Int → Nat) (o : BOp) (j : Nat) : Int → Nat := fun i => if o.off ≤ i ∧ i < o.off + (j : Int) then o.val i else f i
theorem doTo_zero (f : Int → Nat) (o : BOp) : doTo f o 0 = f := by funext i; unfold doTo; rw [if_neg (by omega)]
theorem doTo_all {f : Int → Nat} {o : BOp} {q : Nat} (h : o.cnt = (q : Int)) : doTo f o q = doF f o := by
  funext i
  unfold doTo doF
  by_cases e : o.off ≤ i ∧ i < o.off + (q : Int)
  · rw [if_pos e, if_pos (BOp.at_iff.2 (by rw [h]; exact e))]
  · rw [if_neg e, if_neg (fun c => e (by have := BOp.at_iff.1 c; rw [h] at this; exact this))]
theorem doTo_succ {f : Int → Nat} {o : BOp} {k j x : Nat} (hk : o.off = (k : Int)) (hx : o.val ((k + j : Nat) : Int) = x) : doTo f o (j + 1) = fun q => if q = ((k + j : Nat) : Int) then x else doTo f o j q := by
  funext q
  unfold doTo
  by_cases e : q = ((k + j : Nat) : Int)
  · rw [if_pos e, if_pos (by omega), e, hx]
  · rw [if_neg e]
    by_cases c : o.off ≤ q ∧ q < o.off + (j : Int)
    · rw [if_pos c, if_pos (by omega)]
    · rw [if_neg c, if_neg (by omega)]
section
variable (w : World)
set_option maxRecDepth 100000 in
set_option maxHeartbeats 2000000 in
theorem rone_ (A : Option Addr) (n c : Nat) (f : Int → Nat) (o : BOp) (X : Option Addr) (m cc : Nat) (h : Ns w A n (vol n f)) (hn : n ≤ 1024) (ho : o.Ok n) (hd : Dat w o X m cc) :
    Calls Try.prog 53 #[.slice A n c, .agg #[.int .i64 o.kind, .int .i64 o.off, .int .i64 o.len, .slice X m cc]] w fun e w' => ∃ V, e = .returned V ∧ w'.ownsRow w.heap.size 64 1 V n (nvs (vol n (doF f o))) ∧ Below w.heap.size w w' := by
  obtain ⟨i0, hi0, hz0, hz1, hz2⟩ := u64_info
  have Hz := Lib.hid hz2
  clear hz2
  obtain ⟨fk, fo, fl⟩ := hd.fit.all
  have hA : A = none → n = 0 := h.zero
  obtain ⟨k, hk⟩ := Int.eq_ofNat_of_zero_le ho.low
  obtain ⟨q, hq⟩ := Int.eq_ofNat_of_zero_le (show 0 ≤ o.cnt by have := ho.some; omega)
  have hkq : k + q ≤ n := by have := ho.high; omega
  have hq0 : 0 < q := by have := ho.some; omega
  have Hk := Lib.hid hk
  have Hq := Lib.hid hq
  have Hfr := Lib.hid (show o.from_ = (k : Int) by rw [from_ok ho, hk])
  have Hform := Lib.hid ho.form
  clear hk hq
  have hac := Blk.new w 27 #[.int .i64 o.kind, .int .i64 o.off, .int .i64 o.len, .slice X m cc] rfl
  have hba : Below w.heap.size w (w.alloc (.cells #[.int .i64 o.kind, .int .i64 o.off, .int .i64 o.len, .slice X m cc] 27)) := (Below.refl _ _).alloc (Nat.le_refl _) _
  have hs1 : (w.alloc (.cells #[.int .i64 o.kind, .int .i64 o.off, .int .i64 o.len, .slice X m cc] 27)).heap.size = w.heap.size + 1 := by simp
  have h1 := h.below hba
  go_enter Try.func53, Try.ntmps53
  go_wp2_with (first
    | (at_builtin
       go_must (refine wpList_app _ rfl (.const (.slice none 0 0)) (.tmp 9) _ rfl (w.heap.size + 1) 64 i0 _ 1 8 Try.underlying25 hi0 hz0 hz1 Hz.out rfl Nat.one_pos (.slice none 0 0) 0 [] rfl (own_nil _ _ _ _) A n c (nvs (vol n f)) rfl hA h1.1 (nvs_one _) (by unfold maxLen; omega) (by omega) (by simp) ?_)
       intro v1 w1 hown1 hg1 hat1
       simp only [Nat.zero_add, List.nil_append] at hown1
       have hb01 : Below (w.alloc (.cells #[.int .i64 o.kind, .int .i64 o.off, .int .i64 o.len, .slice X m cc] 27)).heap.size (w.alloc (.cells #[.int .i64 o.kind, .int .i64 o.off, .int .i64 o.len, .slice X m cc] 27)) w1 := (Below.refl _ _).grown hg1 (Nat.le_refl _) (fun k hk => by cases hk)
       have hac1 := hac.keep hb01
       have d0 := hac1.cell (j := 0) (u := .int .i64 o.kind) rfl
       have d1 := hac1.cell (j := 1) (u := .int .i64 o.off) rfl
       have d2 := hac1.cell (j := 2) (u := .int .i64 o.len) rfl
       have d3 := hac1.cell (j := 3) (u := .slice X m cc) rfl)
    | fail)
  have hB1 : Below w.heap.size w w1 := below_step hba hb01 (Nat.le_refl _)
  obtain ⟨g, cap, cur, rfl, hnc, hcap, hbg, -, -, -⟩ := own_cells hown1 (by omega)
  refine (rrange_at _ o X m cc (hd.below hB1) k q Hfr.out Hq.out).mono ?_
  rintro e w2 ⟨rfl, hb2⟩
  have hB2 := below_step hB1 hb2 (Nat.le_refl _)
  have hac2 := hac1.keep hb2
  have hown2 := own_keep hown1 hb2
  rw [← doTo_zero f o] at hown2
  clear d0 d1 d2 d3 hac hac1 hba hb01 hg1 hat1 hown1 hB1 hb2 h1 h hA hs1
  go_wp2_with fail
  go_loopw [8] (fun jv wr => ∃ j : Nat, j ≤ q ∧ jv = .int .i64 (j : Int) ∧ wr.ownsRow (w.heap.size + 1) 64 1 (.slice (some ⟨g, 0, none⟩) n cap) n (nvs (vol n (doTo f o j))) ∧ Blk wr w.heap.size 27 #[.int .i64 o.kind, .int .i64 o.off, .int .i64 o.len, .slice X m cc] ∧ Below w.heap.size w wr) (fun jv _ => q - (intOf jv).toNat)
  case atStart => exact ⟨0, Nat.zero_le _, rfl, hown2, hac2, hB2⟩
  case round =>
    obtain ⟨j, hj, rfl, hO, hA, hb⟩ := hrel
    clear hown2 hac2 hB2
    by_cases hlt : j < q
    · have hjl : (j : Int) < (q : Int) := by omega
      have hj0 : (0 : Int) ≤ (j : Int) := by omega
      have hwj : IntKind.i64.wrap ((k : Int) + (j : Int)) = ((k + j : Nat) : Int) := by rw [IntKind.wrap_i64]; omega
      have hk0 : (0 : Int) ≤ ((k + j : Nat) : Int) := by omega
      have hkN : ((k + j : Nat) : Int) < (n : Int) := by omega
      have hkn : k + j < n := by omega
      obtain ⟨-, hse, hfz⟩ := own_at hO hkn
      obtain ⟨u, hu⟩ := Option.isSome_iff_exists.1 hse
      have hgne : w.heap.size ≠ g := by omega
      have hO1 := own_set1 hO (k + j) (.int .u64 0) hkn
      have hg1 := grown_setCell wr ⟨g, k + j, none⟩ (.int .u64 0)
      have hA1 := hA.grown hg1 (fun e => by simp only [Option.some.injEq] at e; omega)
      have hB1 : Below w.heap.size w (wr.setCell ⟨g, k + j, none⟩ (.int .u64 0)) := hb.setCell (by simp only; omega) _
      have d0 := hA.cell (j := 0) (u := .int .i64 o.kind) rfl
      have d3 := hA.cell (j := 3) (u := .slice X m cc) rfl
      clear hse hg1
      rcases Hform.out with ⟨k1, k2, k3⟩ | ⟨k1, k2⟩
      · have hqm : q = m := by
          have := hd.len
          have hc := Hq.out
          unfold BOp.cnt at hc
          rw [if_pos k1] at hc
          omega
        have hjm : (j : Int) < (m : Int) := by omega
        obtain ⟨bx, ox, rfl, hxl, cx0, hxlow⟩ := hd.ns.at_ (k := j) (by omega)
        have hbxl := cell_lt cx0
        simp only at hbxl
        have hbxg : bx ≠ g := by omega
        have cx := (hb.cell (cell_lt cx0)).trans cx0
        clear cx0
        have hv : o.val ((k + j : Nat) : Int) = o.data[j] := by
          unfold BOp.val
          rw [if_pos k1, Hk.out, show (((k + j : Nat) : Int) - (k : Int)).toNat = j by omega]
          simp [List.getD, List.getElem?_eq_getElem hxl]
        generalize o.data[j] = x at *
        have HS := Lib.hid (doTo_succ (f := f) Hk.out hv)
        have hO2 := own_set1 hO1 (k + j) (.int .u64 (x : Int)) hkn
        rw [List.set_set, nvs_set, vol_set HS.out] at hO2
        have hg2 := grown_setCell (wr.setCell ⟨g, k + j, none⟩ (.int .u64 0)) ⟨g, k + j, none⟩ (.int .u64 (x : Int))
        have hA2 := hA1.grown hg2 (fun e => by simp only [Option.some.injEq] at e; omega)
        have hB2 : Below w.heap.size w ((wr.setCell ⟨g, k + j, none⟩ (.int .u64 0)).setCell ⟨g, k + j, none⟩ (.int .u64 (x : Int))) := hB1.setCell (by simp only; omega) _
        have k1' : (o.kind == 1) = true := by simpa using k1
        clear hO hA hb hO1 hA1 hB1 hg2 hv hqm k1 k2 k3
        go_wp2
        go_roundw
        case rel => exact ⟨j + 1, by omega, by go_num, hO2, hA2, hB2⟩
        case measure => simp [intOf]; omega
      · have hv : o.val ((k + j : Nat) : Int) = 0 := by unfold BOp.val; rw [if_neg (by omega)]
        have HS := Lib.hid (doTo_succ (f := f) Hk.out hv)
        have e0 : Value.int .u64 0 = .int .u64 ((0 : Nat) : Int) := rfl
        rw [e0, nvs_set, vol_set HS.out, ← e0] at hO1
        have k1' : (o.kind == 1) = false := by simp; omega
        clear hO hA hb hv k1 k2 e0
        go_wp2
        go_roundw
        case rel => exact ⟨j + 1, by omega, by go_num, hO1, hA1, hB1⟩
        case measure => simp [intOf]; omega
    · have hjn : (q : Int) ≤ (j : Int) := by omega
      have hje : j = q := by omega
      rw [hje, doTo_all Hq.out] at hO
      clear hje
      go_wp2
      go_ret
      exact ⟨_, rfl, hO.mono (Nat.le_succ _), hb⟩
set_option maxRecDepth 100000 in
set_option maxHeartbeats 2000000 in
theorem rapply_ (A : Option Addr) (n c : Nat) (v : List Nat) (h : Ns w A n v) (hnm : n ≤ 9223372036854775807) (B : Option Addr) (k d : Nat) (l : List BOp) (hl : Opl w B k l) (hk : k ≤ 9223372036854775807) :
    Calls Try.prog 29 #[.slice A n c, .slice B k d] w fun e w' => AnsN w w' e (apE n l) (apL v l) := by
  obtain ⟨i0, hi0, hz0, hz1, hz2⟩ := u64_info
  have Hz := Lib.hid hz2
  clear hz2
  have hnv := h.len
  have hni : I64 (n : Int) := by unfold I64; omega
  have Hlen := Lib.hid hl.len
  have hapl := apL_low h.2 hl.low
  have hA : A = none → n = 0 := h.zero
  cases hm : manyB n with
  | false =>
    have He := Lib.hid (show apE n l = 6 by unfold apE; rw [hm]; rfl)
    have Hv := Lib.hid (show apL v l = [] by unfold apL; rw [← hnv, hm]; rfl)
    clear hnv
    go_enter Try.func29, Try.ntmps29
    go_wp2_with fail
    refine (rmany_ _ n hni).mono ?_
    rw [hm]
    rintro e w2 ⟨rfl, rfl⟩
    go_wp2
    go_ret2
    rw [He.out, Hv.out]
    exact ⟨none, 0, 0, rfl, GotN.no _ _, Below.refl _ _⟩
  | true =>
    have hn := many_nat hm
    have He := Lib.hid (show apE n l = if l.all (·.right n) then 0 else 1 by unfold apE; rw [hm]; rfl)
    have Hv := Lib.hid (show apL v l = if l.all (·.right n) then vol n (l.foldl doF (fun_ v)) else [] by unfold apL; rw [← hnv, hm]; rfl)
    have Hvv := Lib.hid (vol_is hnv)
    clear hnv
    go_enter Try.func29, Try.ntmps29
    go_wp2_with fail
    refine (rmany_ _ n hni).mono ?_
    rw [hm]
    rintro e w2 ⟨rfl, rfl⟩
    clear hm
    go_wp2_with fail
    go_loopw [6] (fun iv wr => ∃ i : Nat, i ≤ k ∧ iv = .int .i64 (i : Int) ∧ (l.drop i).all (·.right n) = l.all (·.right n) ∧ Below w.heap.size w wr) (fun iv _ => k - (intOf iv).toNat)
    case atStart => exact ⟨0, Nat.zero_le _, rfl, rfl, Below.refl _ _⟩
    case round =>
      obtain ⟨i, hi, rfl, hL, hb⟩ := hrel
      by_cases hlt : i < k
      · have hil : (i : Int) < (k : Int) := by omega
        have hi0 : (0 : Int) ≤ (i : Int) := by omega
        obtain ⟨b, o, X, m, cc, x, rfl, hx, c0, c1, c2, c3, hd⟩ := (hl.below hb).at_ hlt
        rw [drop_of hx, List.all_cons] at hL
        go_wp2_with fail
        refine (rright1_ _ n x X m cc hni hd).mono ?_
        cases hm : x.right n with
        | false =>
          have HB := Lib.hid (show l.all (·.right n) = false by rw [← hL, hm]; rfl)
          clear hL
          rintro e w' ⟨rfl, hb'⟩
          go_wp2
          go_ret2
          rw [He.out, Hv.out, HB.out]
          exact ⟨none, 0, 0, rfl, GotN.no _ _, below_step hb hb' (Nat.le_refl _)⟩
        | true =>
          have HL := Lib.hid (show (l.drop (i + 1)).all (·.right n) = l.all (·.right n) by rw [← hL, hm]; rfl)
          clear hL
          rintro e w' ⟨rfl, hb'⟩
          go_wp2
          go_roundw
          case rel => exact ⟨i + 1, by omega, by go_num, HL.out, below_step hb hb' (Nat.le_refl _)⟩
          case measure => simp [intOf]; omega
      · have hin : (k : Int) ≤ (i : Int) := by omega
        have HR := Lib.hid (show l.all (·.right n) = true by rw [← hL, List.drop_of_length_le (by have := Hlen.out; omega)]; rfl)
        clear hL
        have h1 := h.below hb
        go_wp2_with (first
          | (at_builtin
             go_must (refine wpList_app _ rfl (.const (.slice none 0 0)) (.tmp 27) _ rfl w.heap.size 64 i0 _ 1 8 Try.underlying25 hi0 hz0 hz1 Hz.out rfl Nat.one_pos (.slice none 0 0) 0 [] rfl (own_nil _ _ _ _) A n c (nvs v) rfl hA h1.1 (nvs_one _) (by unfold maxLen; omega) (by omega) hb.size ?_)
             intro v1 w1 hown1 hg1 hat1
             simp only [Nat.zero_add, List.nil_append] at hown1
             have hB1 : Below w.heap.size w w1 := hb.grown hg1 hb.size (fun k hk => by cases hk))
          | fail)
        rw [Hvv.out] at hown1
        clear h1 hg1 hat1 hb
        go_loopw [7, 8] (fun Vv iv wr => ∃ (i : Nat) (f : Int → Nat), i ≤ k ∧ iv = .int .i64 (i : Int) ∧ (l.drop i).foldl doF f = l.foldl doF (fun_ v) ∧ low64 f ∧ wr.ownsRow w.heap.size 64 1 Vv n (nvs (vol n f)) ∧ Below w.heap.size w wr) (fun _ iv _ => k - (intOf iv).toNat)
        case atStart => exact ⟨0, fun_ v, Nat.zero_le _, rfl, rfl, fun_low h.2, hown1, hB1⟩
        case round =>
          obtain ⟨i, f, hi, rfl, hL, hf, hO, hb⟩ := hrel
          obtain ⟨A7, c7, rfl, -, -, -⟩ := own_form hO
          clear hown1 hB1
          by_cases hlt : i < k
          · have hil : (i : Int) < (k : Int) := by omega
            have hi0 : (0 : Int) ≤ (i : Int) := by omega
            obtain ⟨b, o, X, m, cc, x, rfl, hx, c0, c1, c2, c3, hd⟩ := (hl.below hb).at_ hlt
            have hok := all_right HR.out (List.mem_of_getElem? hx)
            rw [drop_of hx, List.foldl_cons] at hL
            have HL := Lib.hid hL
            clear hL
            go_wp2_with fail
            refine (rone_ _ A7 n c7 f x X m cc (no_ns hO (vol_low hf)) hn hok hd).mono ?_
            rintro e w' ⟨V, rfl, hO2, hb2⟩
            have hO3 := hO2.mono hb.size
            have hf2 := low_do hf hd.ns.2
            go_wp2
            go_roundw
            case rel => exact ⟨i + 1, _, by omega, by go_num, HL.out, hf2, hO3, below_step hb hb2 (Nat.le_refl _)⟩
            case measure => simp [intOf]; omega
          · have hin : (k : Int) ≤ (i : Int) := by omega
            have HB := Lib.hid (show f = l.foldl doF (fun_ v) by rw [← hL, List.drop_of_length_le (by have := Hlen.out; omega)]; rfl)
            clear hL
            go_wp2
            go_ret2
            rw [He.out, HR.out]
            refine ⟨A7, n, c7, rfl, ⟨?_, hapl⟩, hb⟩
            rw [Hv.out, HR.out, if_pos rfl, ← HB.out]
            exact hO
end
end Blo
end Go.Proofs.Ytdcggnfplfgcnaa

set_option linter.all false
namespace Go.Proofs.Ytdcggnfplfgcnaa
open Go.RowKit
namespace Blo

theorem step_skip {m : Nat → Option Nat} {k : Nat} (hm : m k = none) : shortS m (k + 1) = shortS m k := by
  show stepS (shortS m k) (prevOf m k) k (m k) = _
  rw [hm]; rfl
theorem step_trim {m : Nat → Option Nat} {k : Nat} (hm : m k = some 0) (hp : prevOf m k ≠ some 0) : shortS m (k + 1) = shortS m k ++ [⟨2, k, 1, []⟩] := by
  show stepS (shortS m k) (prevOf m k) k (m k) = _
  rw [hm]
  cases hl : (shortS m k).getLast? with
  | none => simp only [stepS, hl]
  | some y => simp only [stepS, hl, if_neg hp]
theorem step_trim2 {m : Nat → Option Nat} {k : Nat} (hm : m k = some 0) (hp : prevOf m k = some 0) : ∃ p y, shortS m k = p ++ [y] ∧ shortS m (k + 1) = p ++ [{ y with len := y.len + 1 }] ∧ -2000 ≤ y.len ∧ (k ≤ 1024 → y.len ≤ 1024) := by
  cases k with
  | zero => cases hp
  | succ j =>
    obtain ⟨p, y, e, h1, h2⟩ := (short_inv m (j + 1)).last j 0 rfl hp
    rw [if_pos rfl] at h2
    have hok := (short_inv m (j + 1)).ok y (by rw [e]; simp)
    have hc : y.cnt = y.len := by unfold BOp.cnt; rw [if_neg (by omega), if_pos h2]
    have h3 := hok.some
    have h4 := hok.low
    have h5 := hok.high
    refine ⟨p, y, e, ?_, by omega, fun h => by omega⟩
    show stepS (shortS m (j + 1)) (prevOf m (j + 1)) (j + 1) (m (j + 1)) = _
    rw [hm, e]
    unfold stepS
    simp [hp]
theorem step_write {m : Nat → Option Nat} {k x : Nat} (hx : x ≠ 0) (hm : m k = some x) (hp : prevOf m k = none ∨ prevOf m k = some 0) : shortS m (k + 1) = shortS m k ++ [⟨1, k, 0, [x]⟩] := by
  show stepS (shortS m k) (prevOf m k) k (m k) = _
  rw [hm]
  obtain ⟨z, rfl⟩ : ∃ z, x = z + 1 := ⟨x - 1, by omega⟩
  have hn : ¬ ((prevOf m k).isSome && prevOf m k != some 0) = true := by rcases hp with hp | hp <;> simp [hp]
  cases hl : (shortS m k).getLast? with
  | none => simp only [stepS, hl]
  | some y => simp only [stepS, hl, if_neg (show ¬ (((prevOf m k).isSome && prevOf m k != some 0) = true ∧ y.data.length < 64) from fun e => hn e.1)]
theorem step_write2 {m : Nat → Option Nat} {k x z : Nat} (hx : x ≠ 0) (hm : m k = some x) (hz : z ≠ 0) (hp : prevOf m k = some z) : ∃ p y, shortS m k = p ++ [y] ∧ y.kind = 1 ∧ y.len = 0 ∧ 0 < y.data.length ∧ y.data.length ≤ 64 ∧ (y.data.length < 64 → shortS m (k + 1) = p ++ [{ y with data := y.data ++ [x] }]) ∧ (¬ y.data.length < 64 → shortS m (k + 1) = shortS m k ++ [⟨1, k, 0, [x]⟩]) := by
  cases k with
  | zero => cases hp
  | succ j =>
    obtain ⟨p, y, e, h1, h2⟩ := (short_inv m (j + 1)).last j z rfl hp
    rw [if_neg hz] at h2
    have hok := (short_inv m (j + 1)).ok y (by rw [e]; simp)
    have hf : y.kind = 1 ∧ y.len = 0 ∧ y.data.length ≤ 64 := by
      rcases hok.form with q | q
      · exact q
      · omega
    have hc : y.cnt = (y.data.length : Int) := by unfold BOp.cnt; rw [if_pos h2]
    have h3 := hok.some
    obtain ⟨u, rfl⟩ : ∃ u, x = u + 1 := ⟨x - 1, by omega⟩
    obtain ⟨t, rfl⟩ : ∃ t, z = t + 1 := ⟨z - 1, by omega⟩
    have hS : shortS m (j + 1 + 1) = stepS (shortS m (j + 1)) (prevOf m (j + 1)) (j + 1) (m (j + 1)) := rfl
    refine ⟨p, y, e, h2, hf.2.1, by omega, hf.2.2, fun h => ?_, fun h => ?_⟩
    · rw [hS, hm, hp, e]
      unfold stepS
      simp [h]
    · rw [hS, hm, hp, e]
      unfold stepS
      simp [h]
theorem tof_yes {tc : Nat → Bool} {f : Int → Nat} {i x : Nat} (h : tc i = true) (hx : f (i : Int) = x) : tof tc f i = some x := by unfold tof; rw [h, if_pos rfl, hx]
theorem tof_no {tc : Nat → Bool} {f : Int → Nat} {i : Nat} (h : tc i = false) : tof tc f i = none := by unfold tof; rw [h]; rfl
theorem ov_one' (o : BOp) (X : Option Addr) (m c : Nat) : ∀ u ∈ ov4 (o, .slice X m c), u.oneCell' = true := ov_one o X m c
theorem vol_cell {w : World} {A : Option Addr} {n : Nat} {f : Int → Nat} (h : Ns w A n (vol n f)) {i : Nat} (hi : i < n) : ∃ b o, A = some ⟨b, o, none⟩ ∧ w.cell? ⟨b, o + i, none⟩ = some (.int .u64 ((f (i : Int) : Nat) : Int)) ∧ f (i : Int) < 18446744073709551616 := by
  obtain ⟨b, o, e, hx, hc, hxl⟩ := h.at_ hi
  have hxe : (vol n f)[i] = f (i : Int) := by
    have := vol_at f hi
    rw [List.getElem?_eq_getElem hx] at this
    injection this
  rw [hxe] at hc hxl
  exact ⟨b, o, e, hc, hxl⟩
theorem tvs_cell {w : World} {T : Option Addr} {n : Nat} {tc : Nat → Bool} (h : Rd w T 1 n (tvs n tc)) {i : Nat} (hi : i < n) : ∃ b o, T = some ⟨b, o, none⟩ ∧ w.cell? ⟨b, o + i, none⟩ = some (.bool (tc i)) := by
  obtain ⟨b, o, e, hx, hc⟩ := h.at_ hi
  have hxe : (tvs n tc)[i] = .bool (tc i) := by
    have := tvs_at tc hi
    rw [List.getElem?_eq_getElem hx] at this
    injection this
  rw [hxe] at hc
  exact ⟨b, o, e, hc⟩
theorem below_drew0 (w : World) : Below w.heap.size w w.drew := ⟨rfl, rfl, rfl, Nat.le_refl _, fun _ _ => rfl⟩
theorem frozen_below {B : Nat} {w w' : World} (hb : Below B w w') {g j : Nat} (hg : g < B) (h : w.frozen? ⟨g, j, none⟩ = false) : w'.frozen? ⟨g, j, none⟩ = false := by
  have := hb.block g hg
  unfold World.frozen? at h ⊢
  simp only [this]
  exact h
theorem rd_new1 (w : World) (u : Value) (t : TypeId) : Rd (w.alloc (.cells #[u] t)) (some ⟨w.heap.size, 0, none⟩) 1 1 [u] := Rd.new w #[u] t (0, 0) rfl
theorem one_u64 {x : Int} : ∀ u ∈ [Value.int .u64 x], u.oneCell' = true := by simp [Value.oneCell']
/-- What stands behind i blocks: a list of the call's own, told shortly. -/
def Sofar (w wr : World) (v : Value) (n : Nat) (L : List (BOp × Value)) (l : List BOp) : Prop := Ol wr w.heap.size v n L ∧ L.map Prod.fst = l ∧ Below w.heap.size w wr
theorem sofar_push {w wr w3 : World} {v v3 : Value} {n : Nat} {L : List (BOp × Value)} {l : List BOp} (h : Sofar w wr v n L l) {o : BOp} {d : Value} {w2 : World} (hb : Below wr.heap.size wr w2) (hd : w2.ownsRow w.heap.size 64 1 d o.data.length (nvs o.data)) (hnew : ∀ k, d.ownBlock = some k → wr.heap.size ≤ k) (hr : w3.ownsRow w.heap.size 27 4 v3 (n + 1) (ovs L ++ ov4 (o, d))) (hg : w2.grownBy w3 v.ownBlock) : Sofar w w3 v3 (n + 1) (L ++ [(o, d)]) (l ++ [o]) := by
  have hO2 := h.1.keep hb
  have hB2 := below_step h.2.2 hb (Nat.le_refl _)
  refine ⟨ol_push hO2 hg hr hd (fun p hp g hg e => ?_), by rw [List.map_append, h.2.1]; rfl, hB2.grown hg hB2.size (own_from hO2.row)⟩
  have h1 := ((h.1.data p hp).lt g hg).2
  have h2 := hnew g e
  omega
theorem map_snoc {L : List (BOp × Value)} {p : List BOp} {y : BOp} (h : L.map Prod.fst = p ++ [y]) : ∃ P dy, L = P ++ [(y, dy)] ∧ P.map Prod.fst = p := by
  rcases snoc_cases L with rfl | ⟨P, ⟨z, dy⟩, rfl⟩
  · simp at h
  · rw [List.map_append] at h
    simp only [List.map_cons, List.map_nil] at h
    have := List.append_inj' h rfl
    simp only [List.cons.injEq, and_true] at this
    exact ⟨P, dy, by rw [this.2], this.1⟩
section
variable (w : World)
end
end Blo
end Go.Proofs.Ytdcggnfplfgcnaa

set_option linter.all false
namespace Go.Proofs.Ytdcggnfplfgcnaa
open Go.RowKit
namespace Blo

theorem fun_zeros (n : Nat) : fun_ (List.replicate n 0) = fun _ => 0 := by
  funext i
  unfold fun_ List.getD
  cases h : (List.replicate n 0)[i.toNat]? with
  | none => rfl
  | some x => exact (List.eq_of_mem_replicate (List.mem_of_getElem? h))
theorem nvs_repl (n : Nat) : nvs (List.replicate n 0) = List.replicate n (.int .u64 0) := (nvs_zeros n).symm
section
variable (w : World)
end
end Blo
end Go.Proofs.Ytdcggnfplfgcnaa

set_option linter.all false
namespace Go.Proofs.Ytdcggnfplfgcnaa
open Go.RowKit
namespace Blo

theorem ns_get {w : World} {A : Option Addr} {n : Nat} {v : List Nat} (h : Ns w A n v) {i : Nat} (hi : i < n) : ∃ b o x, A = some ⟨b, o, none⟩ ∧ v[i]? = some x ∧ w.cell? ⟨b, o + i, none⟩ = some (.int .u64 (x : Int)) := by
  obtain ⟨b, o, e, hx, hc, _⟩ := h.at_ hi
  exact ⟨b, o, v[i], e, List.getElem?_eq_getElem hx, hc⟩
theorem cons_eq {α : Type} [DecidableEq α] (x : α) (l r : List α) : decide (x :: l = x :: r) = decide (l = r) := by simp
theorem cons_ne {α : Type} [DecidableEq α] {x y : α} (l r : List α) (h : x ≠ y) : decide (x :: l = y :: r) = false := by simp [h]
section
variable (w : World)
set_option maxRecDepth 100000 in
set_option maxHeartbeats 2000000 in
theorem words_ (A B : Option Addr) (n m c d : Nat) (a b : List Nat) (ha : Ns w A n a) (hb : Ns w B m b) (hn : n ≤ 9223372036854775807) :
    Calls Try.prog 21 #[.slice A n c, .slice B m d] w fun e w' => e = .returned (.bool (decide (a = b))) ∧ ∃ k, w' = w.drewN k := by
  have Han := Lib.hid ha.len
  have Hbm := Lib.hid hb.len
  obtain ⟨R, hR⟩ : ∃ R, decide (a = b) = R := ⟨_, rfl⟩
  rw [hR]
  by_cases hnm : n = m
  · subst hnm
    go_enter Try.func21, Try.ntmps21
    have HR := Lib.hid hR
    clear hR
    go_wp2_with fail
    go_loopw [5] (fun iv wr => ∃ (k j : Nat), k ≤ n ∧ iv = .int .i64 (k : Int) ∧ decide (a.drop k = b.drop k) = R ∧ wr = w.drewN j) (fun iv _ => n - (intOf iv).toNat)
    case atStart => exact ⟨0, 0, Nat.zero_le _, rfl, HR.out, rfl⟩
    case round =>
      obtain ⟨k, j, hk, rfl, hL, rfl⟩ := hrel
      by_cases hlt : k < n
      · have hil : (k : Int) < (n : Int) := by omega
        have hk0 : (0 : Int) ≤ (k : Int) := by omega
        obtain ⟨p, o, x, rfl, hx, cx⟩ := ns_get ha hlt
        obtain ⟨q, r, y, rfl, hy, cy⟩ := ns_get hb hlt
        rw [drop_of hx, drop_of hy] at hL
        clear ha hb hx hy
        by_cases hxy : x = y
        · subst hxy
          rw [cons_eq] at hL
          have HL := Lib.hid hL
          clear hL
          go_wp2_with fail
          go_quiet (fail)
          go_wp2
          go_roundw
          case rel => exact ⟨k + 1, _, by omega, by go_num, HL.out, rfl⟩
          case measure => simp [intOf]; omega
        · rw [cons_ne _ _ hxy] at hL
          subst hL
          have hxy2 : ((x : Int) == (y : Int)) = false := by simp; omega
          have hxy3 : ((x : Int) != (y : Int)) = true := by simp; omega
          clear hxy
          go_wp2_with fail
          go_quiet (fail)
          go_wp2
          go_ret
          exact ⟨rfl, j + nq, by simp⟩
      · have hin : (n : Int) ≤ (k : Int) := by omega
        have h1 : a.drop k = [] := List.drop_of_length_le (by have := Han.out; omega)
        have h2 : b.drop k = [] := List.drop_of_length_le (by have := Hbm.out; omega)
        rw [h1, h2] at hL
        have hL2 : true = R := by rw [← hL]; simp
        subst hL2
        clear h1 h2 hL
        go_wp2
        go_ret
        exact ⟨rfl, j, rfl⟩
  · have hR2 : R = false := by
      rw [← hR]
      simp only [decide_eq_false_iff_not]
      intro e
      exact hnm (by rw [Han.out, Hbm.out, e])
    subst hR2
    have h4 : ¬ (n : Int) = (m : Int) := by omega
    clear hR hnm
    go_enter Try.func21, Try.ntmps21
    go_wp2
    go_ret
    exact ⟨rfl, 0, rfl⟩
theorem words_at (n0 : Nat) (A B : Option Addr) (n m c d : Nat) (a : List Nat) (ha : Ns w A n a) (hb : Ns w B m a) (hn : n ≤ 9223372036854775807) :
    Calls Try.prog 21 #[.slice A n c, .slice B m d] (w.drewN n0) fun e w' => e = .returned (.bool true) ∧ ∃ k, w' = (w.drewN n0).drewN k := by
  have := words_ (w.drewN n0) A B n m c d a a (ha.drewN n0) (hb.drewN n0) hn
  rw [decide_eq_true (rfl : a = a)] at this
  exact this
set_option maxRecDepth 100000 in
set_option maxHeartbeats 4000000 in
theorem same_ (A B : Option Addr) (n m c d : Nat) (l : List BOp) (ha : Opl w A n l) (hb : Opl w B m l) (hn : n ≤ 9223372036854775807) :
    Calls Try.prog 25 #[.slice A n c, .slice B m d] w fun e w' => e = .returned (.bool true) ∧ ∃ k, w' = w.drewN k := by
  have hnm : m = n := hb.len.trans ha.len.symm
  subst hnm
  go_enter Try.func25, Try.ntmps25
  go_wp2_with fail
  go_loopw [5] (fun iv wr => ∃ (k j : Nat), k ≤ m ∧ iv = .int .i64 (k : Int) ∧ wr = w.drewN j) (fun iv _ => m - (intOf iv).toNat)
  case atStart => exact ⟨0, 0, Nat.zero_le _, rfl, rfl⟩
  case round =>
    obtain ⟨k, j, hk, rfl, hwr⟩ := hrel
    have Hwr := Lib.hid hwr
    have haw : Opl wr A m l := by rw [hwr]; exact ha.drewN j
    have hbw : Opl wr B m l := by rw [hwr]; exact hb.drewN j
    clear hwr
    by_cases hlt : k < m
    · have hil : (k : Int) < (m : Int) := by omega
      have hk0 : (0 : Int) ≤ (k : Int) := by omega
      obtain ⟨p, o, X, xm, xc, x, rfl, hx, c0, c1, c2, c3, dx⟩ := haw.at_ hlt
      obtain ⟨q, r, Y, ym, yc, y, rfl, hy, d0, d1, d2, d3, dy⟩ := hbw.at_ hlt
      rw [hx] at hy
      injection hy with hy
      subst hy
      have hxm : xm ≤ 9223372036854775807 := Nat.le_trans dx.le dx.cap
      clear ha hb hx haw hbw
      go_wp2_with fail
      go_quiet (first
        | (go_at_call 21; exact Calls.quiet_of (words_at wr _ X Y xm ym xc yc x.data dx.ns dy.ns hxm)))
      go_wp2
      go_roundw
      case rel => exact ⟨k + 1, j + nq, by omega, by go_num, by rw [Hwr.out]; simp⟩
      case measure => simp [intOf]; omega
    · have hin : (m : Int) ≤ (k : Int) := by omega
      go_wp2
      go_ret
      exact ⟨rfl, j, Hwr.out⟩
end
end Blo
end Go.Proofs.Ytdcggnfplfgcnaa

set_option linter.all false
namespace Go.Proofs.Ytdcggnfplfgcnaa
open Go.ChangeShapes Go.WideShapes Go.ChangeAt Go.RowKit
namespace Blo

/-- A list of ops that was answered. -/
structure GotO (w : World) (B : Nat) (A : Option Addr) (m c : Nat) (l : List BOp) : Prop where
  own : ∃ L, Ol w B (.slice A m c) m L ∧ L.map Prod.fst = l
  sml : ∀ o ∈ l, Sml o
theorem GotO.keep {w w' : World} {B : Nat} {A : Option Addr} {m c : Nat} {l : List BOp} (h : GotO w B A m c l) (hb : Below w.heap.size w w') : GotO w' B A m c l := by
  obtain ⟨L, hO, hL⟩ := h.own
  exact ⟨⟨L, hO.keep hb, hL⟩, h.sml⟩
theorem GotO.len {w : World} {B : Nat} {A : Option Addr} {m c : Nat} {l : List BOp} (h : GotO w B A m c l) : m = l.length := by
  obtain ⟨L, hO, hL⟩ := h.own
  have := hO.len
  rw [← hL, List.length_map]
  exact this
theorem GotO.bounds {w : World} {B : Nat} {A : Option Addr} {m c : Nat} {l : List BOp} (h : GotO w B A m c l) : m ≤ c ∧ c ≤ 9223372036854775807 ∧ (A = none → m = 0 ∧ c = 0) := by
  obtain ⟨L, hO, hL⟩ := h.own
  obtain ⟨A', c', e, h1, h2, h3⟩ := own_form hO.row
  injection e with e1 _ e3
  subst e1 e3
  exact ⟨h1, by unfold maxLen at h2; omega, h3⟩
theorem GotO.os {w : World} {B : Nat} {A : Option Addr} {m c : Nat} {l : List BOp} (h : GotO w B A m c l) : Opl w A m l := by
  refine ⟨h.len, fun k hk => ?_⟩
  have hs := h.sml l[k] (List.getElem_mem hk)
  obtain ⟨L, hO, rfl⟩ := h.own
  have hk' : k < L.length := by simpa using hk
  have hd := hO.data L[k] (List.getElem_mem hk')
  simp only [List.getElem_map] at hs ⊢
  obtain ⟨X, c', e, h1, h2, h3⟩ := own_form hd
  have hrd := rd_own hO.row
  have g : ∀ j (u : Value), (ov4 L[k])[j]? = some u → ∃ b o, A = some ⟨b, o, none⟩ ∧ w.cell? ⟨b, o + k * 4 + j, none⟩ = some u := fun j u hu => by
    have hj : j < 4 := by have := (List.getElem?_eq_some_iff.1 hu).1; simpa using this
    obtain ⟨b, o, e, hc⟩ := hrd.2 (k * 4 + j) u (by rw [ovs_at hk' hj]; exact hu)
    exact ⟨b, o, e, by rw [Nat.add_assoc]; exact hc⟩
  obtain ⟨b, o, eA, c0⟩ := g 0 _ rfl
  have g' : ∀ j (u : Value), (ov4 L[k])[j]? = some u → w.cell? ⟨b, o + k * 4 + j, none⟩ = some u := fun j u hu => by
    obtain ⟨b', o', e', hc⟩ := g j u hu
    rw [eA] at e'
    injection e' with e'
    injection e' with e1 e2
    subst e1 e2
    exact hc
  have hm : L[k].1.data.length ≤ 64 := hs.short
  refine ⟨b, o, X, L[k].1.data.length, c', eA, c0, g' 1 _ rfl, g' 2 _ rfl, ?_, ?_⟩
  · rw [← e]; exact g' 3 _ rfl
  · rw [e] at hd
    exact dat_own hd hs
def AnsG (w w' : World) (e : Ending) (er : Int) (l : List BOp) : Prop := ∃ A m c, e = .returned (.tuple #[.slice A m c, .int .i64 er]) ∧ GotO w' w.heap.size A m c l ∧ Below w.heap.size w w'
theorem ansG {w w' : World} {e : Ending} {er : Int} {l : List BOp} (h : AnsO w w' e er l) (hs : ∀ o ∈ l, Sml o) : AnsG w w' e er l := by
  obtain ⟨A, m, c, L, he, hO, hL, hb⟩ := h
  exact ⟨A, m, c, he, ⟨⟨L, hO, hL⟩, hs⟩, hb⟩
theorem told_low {l : List BOp} (h : ∀ o ∈ l, ∀ z ∈ o.data, z < 18446744073709551616) : ∀ (i : Nat) x, told l (i : Int) = some x → x < 18446744073709551616 := fun i x hx => by
  have := foldl_low h low_zero (i : Int)
  rw [do_told, hx] at this
  exact this
theorem sqL_sml {n : Int} {l : List BOp} (h : ∀ o ∈ l, ∀ z ∈ o.data, z < 18446744073709551616) : ∀ o ∈ sqL n l, Sml o := by
  unfold sqL
  split
  · rename_i hc
    have hm := (Bool.and_eq_true_iff.1 hc).1
    simp only [manyB, Bool.and_eq_true, decide_eq_true_eq] at hm
    exact short_sml (told_low h) (by omega)
  · simp
theorem dfL_sml {a b : List Nat} (h : ∀ z ∈ b, z < 18446744073709551616) : ∀ o ∈ dfL a b, Sml o := by
  unfold dfL
  split
  · rename_i hc
    have hm := (Bool.and_eq_true_iff.1 hc).2
    split
    · exact short_sml (tof_low (fun_low h)) (many_nat hm)
    · simp
  · simp
section
variable (w : World)
end
/-- Two ops, laid in a new row. -/
theorem os_new2 {w : World} {x y : BOp} {X Y : Option Addr} {m c p d : Nat} {t : TypeId} {g : Nat} (hg : g = w.heap.size) (hx : Dat w x X m c) (hy : Dat w y Y p d) :
    Opl (w.alloc (.cells #[.int .i64 x.kind, .int .i64 x.off, .int .i64 x.len, .slice X m c, .int .i64 y.kind, .int .i64 y.off, .int .i64 y.len, .slice Y p d] t)) (some ⟨g, 0, none⟩) 2 [x, y] := by
  subst hg
  have hb : Below w.heap.size w (w.alloc (.cells #[.int .i64 x.kind, .int .i64 x.off, .int .i64 x.len, .slice X m c, .int .i64 y.kind, .int .i64 y.off, .int .i64 y.len, .slice Y p d] t)) := (Below.refl _ _).alloc (Nat.le_refl _) _
  have hn := Blk.new w t #[.int .i64 x.kind, .int .i64 x.off, .int .i64 x.len, .slice X m c, .int .i64 y.kind, .int .i64 y.off, .int .i64 y.len, .slice Y p d] rfl
  refine ⟨rfl, fun k hk => ?_⟩
  match k, hk with
  | 0, _ => exact ⟨_, 0, X, m, c, rfl, hn.cell rfl, hn.cell rfl, hn.cell rfl, hn.cell rfl, hx.below hb⟩
  | 1, _ => exact ⟨_, 0, Y, p, d, rfl, hn.cell rfl, hn.cell rfl, hn.cell rfl, hn.cell rfl, hy.below hb⟩
theorem os_new1 {w : World} {x : BOp} {X : Option Addr} {m c : Nat} {t : TypeId} {g : Nat} (hg : g = w.heap.size) (hx : Dat w x X m c) :
    Opl (w.alloc (.cells #[.int .i64 x.kind, .int .i64 x.off, .int .i64 x.len, .slice X m c] t)) (some ⟨g, 0, none⟩) 1 [x] := by
  subst hg
  have hb : Below w.heap.size w (w.alloc (.cells #[.int .i64 x.kind, .int .i64 x.off, .int .i64 x.len, .slice X m c] t)) := (Below.refl _ _).alloc (Nat.le_refl _) _
  have hn := Blk.new w t #[.int .i64 x.kind, .int .i64 x.off, .int .i64 x.len, .slice X m c] rfl
  refine ⟨rfl, fun k hk => ?_⟩
  match k, hk with
  | 0, _ => exact ⟨_, 0, X, m, c, rfl, hn.cell rfl, hn.cell rfl, hn.cell rfl, hn.cell rfl, hx.below hb⟩
theorem fit_small {k o l : Int} {d : List Nat} (h1 : I64 k) (h2 : I64 o) (h3 : I64 l) : FitB ⟨k, o, l, d⟩ := ⟨h1, h2, h3⟩

/-! ### alive -/
def aw : BOp := ⟨1, 1, 0, [5, 6]⟩
def at2 : BOp := ⟨2, 2, 1, []⟩
def aw1 : BOp := ⟨1, 1, 0, [5]⟩
theorem alive_e : sqE 9 [aw, at2] = 0 := by decide +kernel
theorem alive_l : sqL 9 [aw, at2] = [aw1, at2] := by decide +kernel
theorem dat_nil (w : World) (o : BOp) (h : o.data = []) (hf : FitB o) : Dat w o none 0 0 := ⟨by rw [h]; exact Ns.nil, fun _ => ⟨rfl, rfl⟩, Nat.le_refl _, by omega, by omega, hf⟩
theorem dat_new {w : World} {o : BOp} {n g : Nat} {C : Array Value} {t : TypeId} (hg : g = w.heap.size) (hC : C = (nvs o.data).toArray) (hn : n = o.data.length) (hl : ∀ z ∈ o.data, z < 18446744073709551616) (hs : o.data.length ≤ 64) (hf : FitB o) : Dat (w.alloc (.cells C t)) o (some ⟨g, 0, none⟩) n n :=
  ⟨Ns.new w o.data hl t hg hC hn, fun h => (by cases h), Nat.le_refl _, by omega, by omega, hf⟩
theorem i64_small {z : Int} (h0 : 0 ≤ z) (h1 : z ≤ 1024) : I64 z := by unfold I64; omega
theorem fit_aw : FitB aw := ⟨i64_small (by decide) (by decide), i64_small (by decide) (by decide), i64_small (by decide) (by decide)⟩
theorem fit_at2 : FitB at2 := ⟨i64_small (by decide) (by decide), i64_small (by decide) (by decide), i64_small (by decide) (by decide)⟩
theorem fit_aw1 : FitB aw1 := ⟨i64_small (by decide) (by decide), i64_small (by decide) (by decide), i64_small (by decide) (by decide)⟩
theorem own_ : ownKnob Try.prog.godebug = none := by kernel_rfl
theorem laidOut_ : laidOutB Try.prog = true := by kernel_rfl

theorem apE_ok {n : Nat} {l : List BOp} (h : apE n l = 0) : manyB n = true ∧ l.all (·.right (n : Int)) = true := by
  unfold apE at h
  split at h
  · rename_i h1
    split at h
    · rename_i h2; exact ⟨h1, h2⟩
    · cases h
  · cases h
theorem apL_ok {v : List Nat} {l : List BOp} (h1 : manyB v.length = true) (h2 : l.all (·.right (v.length : Int)) = true) : apL v l = vol v.length (l.foldl doF (fun_ v)) := by
  unfold apL
  rw [if_pos h1, if_pos h2]
theorem apL_no {v : List Nat} {l : List BOp} {n : Nat} (hn : n = v.length) (h : apE n l ≠ 0) : apL v l = [] := by
  subst hn
  unfold apE at h
  unfold apL
  split
  · rename_i h1
    rw [if_pos h1] at h
    split
    · rename_i h2; rw [if_pos h2] at h; exact absurd rfl h
    · rfl
  · rfl
theorem apE_of {n : Nat} {l : List BOp} (h1 : manyB n = true) (h2 : l.all (·.right (n : Int)) = true) : apE n l = 0 := by unfold apE; rw [if_pos h1, if_pos h2]
theorem sqE_of {n : Nat} {l : List BOp} (h1 : manyB n = true) (h2 : l.all (·.right (n : Int)) = true) : sqE n l = 0 := by unfold sqE; rw [h1, h2]; rfl
theorem sqL_of {n : Nat} {l : List BOp} (h1 : manyB n = true) (h2 : l.all (·.right (n : Int)) = true) : sqL n l = shortS (fun i => told l (i : Int)) n := by unfold sqL; rw [h1, h2]; rfl
theorem short_right {m : Nat → Option Nat} {n : Nat} (h1 : manyB n = true) : (shortS m n).all (·.right (n : Int)) = true := List.all_eq_true.2 fun o ho => short_ok (many_nat h1) o ho
/-- What some ops make of a volume hangs on it, and on what is told of its blocks, alone. -/
theorem vol_told {n : Nat} {l l' : List BOp} {f g : Int → Nat} (h : ∀ i : Nat, i < n → (told l (i : Int)).getD (f (i : Int)) = (told l' (i : Int)).getD (g (i : Int))) : vol n (l.foldl doF f) = vol n (l'.foldl doF g) :=
  vol_congr fun i hi => by rw [do_told, do_told, h i hi]
theorem fun_vol {n : Nat} {f : Int → Nat} {i : Nat} (hi : i < n) : fun_ (vol n f) (i : Int) = f (i : Int) := by
  unfold fun_ List.getD
  rw [Int.toNat_natCast, vol_at f hi]
  rfl
/-- Told shortly, ops do the same. -/
theorem vol_short {n : Nat} (l : List BOp) (f : Int → Nat) : vol n ((shortS (fun i => told l (i : Int)) n).foldl doF f) = vol n (l.foldl doF f) :=
  vol_told fun i hi => by rw [short_told, if_pos hi]
theorem vol_again {n : Nat} (l : List BOp) (f : Int → Nat) : vol n (l.foldl doF (fun_ (vol n (l.foldl doF f)))) = vol n (l.foldl doF f) :=
  vol_told fun i hi => by
    rw [fun_vol hi, do_told]
    cases told l (i : Int) <;> rfl

/-! ### arguments -/
abbrev OpV : Type := Int × Int × Int × List Nat × Unit
def iShp : Shp Int := Shp.int .i64 (-9223372036854775808) 9223372036854775807
abbrev nShp : Shp Nat := Shp.nat .u64 18446744073709551616
abbrev nsShp : Shp (List Nat) := Shp.slice nShp 8
def opShp : Shp OpV := Shp.agg (Shp.pair iShp (Shp.pair iShp (Shp.pair iShp (Shp.pair nsShp Shp.unit))))
def toOp (v : OpV) : BOp := ⟨v.1, v.2.1, v.2.2.1, v.2.2.2.1⟩
theorem ns_of {w : World} {A : Option Addr} {n c : Nat} {l : List Nat} (h : nsShp.R w [.slice A n c] l) : Ns w A n l ∧ n ≤ c ∧ (A = none → n = 0 ∧ c = 0) ∧ c ≤ 9223372036854775807 ∧ c * 8 ≤ 140737488351232 := by
  obtain ⟨A', c', e, h1, h2, h3, h4, h5⟩ := h
  simp only [List.cons.injEq, Value.slice.injEq, and_true] at e
  obtain ⟨rfl, rfl, rfl⟩ := e
  refine ⟨⟨⟨by simp [nvs], fun j u hu => ?_⟩, fun z hz => ?_⟩, h1, fun h => ⟨by have := h4 h; omega, h4 h⟩, h2, h3⟩
  · have hj : j < l.length := by have := (List.getElem?_eq_some_iff.1 hu).1; simpa [nvs] using this
    obtain ⟨b, o, vs, rfl, hl, hc, hr⟩ := h5 j hj
    obtain ⟨rfl, _⟩ := hr
    refine ⟨b, o, rfl, ?_⟩
    have := hc 0 _ rfl
    simp only [nShp, Shp.nat, Nat.mul_one, Nat.add_zero] at this
    rw [this, ← hu]
    simp [nvs, List.getElem?_eq_getElem hj]
  · obtain ⟨k, hk, rfl⟩ := List.getElem_of_mem hz
    obtain ⟨b, o, vs, rfl, hl, hc, hr⟩ := h5 k hk
    exact hr.2
theorem op_is {w : World} {cs : List Value} {v : OpV} (h : opShp.R w cs v) : ∃ X m c, cs = ov4 (toOp v, .slice X m c) ∧ Dat w (toOp v) X m c := by
  obtain ⟨c1, r1, rfl, hl1, ⟨h1, b1⟩, c2, r2, rfl, hl2, ⟨h2, b2⟩, c3, r3, rfl, hl3, ⟨h3, b3⟩, c4, r4, rfl, hl4, h4, h5⟩ := h
  have h5 : r4 = [] := h5
  subst h1 h2 h3 h5
  have h4' : nsShp.R w c4 v.2.2.2.1 := h4
  obtain ⟨X, c, e, _⟩ := h4
  subst e
  obtain ⟨n1, n2, n3, n4, n5⟩ := ns_of h4'
  exact ⟨X, _, c, rfl, ⟨n1, n3, n2, n4, by omega, ⟨b1, b2, b3⟩⟩⟩
theorem op_arr {w : World} {cs : Array Value} {v : OpV} (h : opShp.R w cs.toList v) : ∃ X m c, cs = #[.int .i64 (toOp v).kind, .int .i64 (toOp v).off, .int .i64 (toOp v).len, .slice X m c] ∧ Dat w (toOp v) X m c := by
  obtain ⟨X, m, c, hcs, hd⟩ := op_is h
  exact ⟨X, m, c, Array.toList_inj.1 (by rw [hcs]), hd⟩
theorem ops_os {w : World} {A : Option Addr} {n c : Nat} {l : List OpV} (h : (Shp.slice opShp 48).R w [.slice A n c] l) : Opl w A n (l.map toOp) ∧ n ≤ c ∧ c ≤ 9223372036854775807 := by
  obtain ⟨A', c', e, h1, h2, h3, h4, h5⟩ := h
  simp only [List.cons.injEq, Value.slice.injEq, and_true] at e
  obtain ⟨rfl, rfl, rfl⟩ := e
  refine ⟨⟨by simp, fun k hk => ?_⟩, h1, h2⟩
  have hk' : k < l.length := by simpa using hk
  obtain ⟨b, o, vs, rfl, hl, hc, hr⟩ := h5 k hk'
  obtain ⟨X, m, c, rfl, hd⟩ := op_is hr
  have e4 : opShp.n = 4 := rfl
  rw [e4] at hc
  simp only [List.getElem_map]
  exact ⟨b, o, X, m, c, rfl, hc 0 _ rfl, hc 1 _ rfl, hc 2 _ rfl, hc 3 _ rfl, hd⟩
theorem ops_int : Opens Try.prog 3 iShp := opens_int _ _ Try.underlying3 (by kernel_rfl) wf_i64
theorem ops_nat : Opens Try.prog 64 nShp := opens_nat _ Try.underlying64 (by kernel_rfl) wf_u64
theorem ops_ns : Opens Try.prog 25 nsShp := opens_slice 8 Try.underlying25 (by kernel_rfl) (by kernel_rfl) (by decide) ops_nat
theorem ops_op : Opens Try.prog 27 opShp :=
  opens_struct Try.underlying27 (by kernel_rfl) (opensF_cons ops_int rfl (opensF_cons ops_int rfl (opensF_cons ops_int rfl (opensF_cons ops_ns rfl (opensF_nil _)))))
theorem ops_ops : Opens Try.prog 58 (Shp.slice opShp 48) := opens_slice 48 Try.underlying58 (by kernel_rfl) (by kernel_rfl) (by decide) ops_op
end Blo
end Go.Proofs.Ytdcggnfplfgcnaa
