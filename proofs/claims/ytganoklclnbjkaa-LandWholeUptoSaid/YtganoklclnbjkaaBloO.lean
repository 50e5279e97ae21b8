/- Layer 8: the document's one, Apply. -/
import Derived.Test.YtganoklclnbjkaaBloN
set_option linter.all false
namespace Go.Proofs.Ytganoklclnbjkaa
open Go.RowKit
namespace Blo

theorem nvs_set (l : List Nat) (i x : Nat) : (nvs l).set i (.int .u64 (x : Int)) = nvs (l.set i x) := by simp [nvs, List.map_set]
theorem vol_set {n : Nat} {f g : Int → Nat} {i x : Nat} (h : g = fun q => if q = (i : Int) then x else f q) : (vol n f).set i x = vol n g := by
  subst h
  apply List.ext_getElem
  · simp [vol]
  · intro j h1 h2
    by_cases e : i = j
    · subst e; simp [vol]
    · rw [List.getElem_set_ne e]
      simp [vol]
      omega
/-- An op's first j blocks are done. -/
def doTo (f : Int → Nat) (o : BOp) (j : Nat) : Int → Nat := fun i => if o.off ≤ i ∧ i < o.off + (j : Int) then o.val i else f i
theorem doTo_zero (f : Int → Nat) (o : BOp) : doTo f o 0 = f := by funext i; unfold doTo; rw [if_neg (by omega)]
theorem doTo_all {f : Int → Nat} {o : BOp} {q : Nat} (h : o.cnt = (q : Int)) : doTo f o q = doF f o := by
  funext i
  unfold doTo doF
  by_cases e : o.off ≤ i ∧ i < o.off + (q : Int)
  · rw [if_pos e, if_pos (BOp.at_iff.2 (by rw [h]; exact e))]
  · rw [if_neg e, if_neg (fun c => e (by have := BOp.at_iff.1 c; rw [h] at this; exact this))]
theorem doTo_succ {f : Int → Nat} {o : BOp} {k j x : Nat} (hk : o.off = (k : Int)) (hx : o.val ((k + j : Nat) : Int) = x) : doTo f o (j + 1) = fun q => if q = ((k + j : Nat) : Int) then x else doTo f o j q := by
  funext q
  unfold doTo
  by_cases e : q = ((k + j : Nat) : Int)
  · rw [if_pos e, if_pos (by omega), e, hx]
  · rw [if_neg e]
    by_cases c : o.off ≤ q ∧ q < o.off + (j : Int)
    · rw [if_pos c, if_pos (by omega)]
    · rw [if_neg c, if_neg (by omega)]
section
variable (w : World)
set_option maxRecDepth 100000 in
set_option maxHeartbeats 2000000 in
theorem rone_ (A : Option Addr) (n c : Nat) (f : Int → Nat) (o : BOp) (X : Option Addr) (m cc : Nat) (h : Ns w A n (vol n f)) (hn : n ≤ 1024) (ho : o.Ok n) (hd : Dat w o X m cc) :
    Calls Try.prog 29 #[.slice A n c, .agg #[.int .i64 o.kind, .int .i64 o.off, .int .i64 o.len, .slice X m cc]] w fun e w' => ∃ V, e = .returned V ∧ w'.ownsRow w.heap.size 62 1 V n (nvs (vol n (doF f o))) ∧ Below w.heap.size w w' := by
  obtain ⟨i0, hi0, hz0, hz1, hz2⟩ := u64_info
  have Hz := Lib.hid hz2
  clear hz2
  obtain ⟨fk, fo, fl⟩ := hd.fit.all
  have hA : A = none → n = 0 := h.zero
  obtain ⟨k, hk⟩ := Int.eq_ofNat_of_zero_le ho.low
  obtain ⟨q, hq⟩ := Int.eq_ofNat_of_zero_le (show 0 ≤ o.cnt by have := ho.some; omega)
  have hkq : k + q ≤ n := by have := ho.high; omega
  have hq0 : 0 < q := by have := ho.some; omega
  have Hk := Lib.hid hk
  have Hq := Lib.hid hq
  have Hfr := Lib.hid (show o.from_ = (k : Int) by rw [from_ok ho, hk])
  have Hform := Lib.hid ho.form
  clear hk hq
  have hac := Blk.new w 67 #[.int .i64 o.kind, .int .i64 o.off, .int .i64 o.len, .slice X m cc] rfl
  have hba : Below w.heap.size w (w.alloc (.cells #[.int .i64 o.kind, .int .i64 o.off, .int .i64 o.len, .slice X m cc] 67)) := (Below.refl _ _).alloc (Nat.le_refl _) _
  have hs1 : (w.alloc (.cells #[.int .i64 o.kind, .int .i64 o.off, .int .i64 o.len, .slice X m cc] 67)).heap.size = w.heap.size + 1 := by simp
  have h1 := h.below hba
  go_enter Try.func29, Try.ntmps29
  go_wp2_with (first
    | (at_builtin
       go_must (refine wpList_app _ rfl (.const (.slice none 0 0)) (.tmp 9) _ rfl (w.heap.size + 1) 62 i0 _ 1 8 Try.underlying27 hi0 hz0 hz1 Hz.out rfl Nat.one_pos (.slice none 0 0) 0 [] rfl (own_nil _ _ _ _) A n c (nvs (vol n f)) rfl hA h1.1 (nvs_one _) (by unfold maxLen; omega) (by omega) (by simp) ?_)
       intro v1 w1 hown1 hg1 hat1
       simp only [Nat.zero_add, List.nil_append] at hown1
       have hb01 : Below (w.alloc (.cells #[.int .i64 o.kind, .int .i64 o.off, .int .i64 o.len, .slice X m cc] 67)).heap.size (w.alloc (.cells #[.int .i64 o.kind, .int .i64 o.off, .int .i64 o.len, .slice X m cc] 67)) w1 := (Below.refl _ _).grown hg1 (Nat.le_refl _) (fun k hk => by cases hk)
       have hac1 := hac.keep hb01
       have d0 := hac1.cell (j := 0) (u := .int .i64 o.kind) rfl
       have d1 := hac1.cell (j := 1) (u := .int .i64 o.off) rfl
       have d2 := hac1.cell (j := 2) (u := .int .i64 o.len) rfl
       have d3 := hac1.cell (j := 3) (u := .slice X m cc) rfl)
    | fail)
  have hB1 : Below w.heap.size w w1 := below_step hba hb01 (Nat.le_refl _)
  obtain ⟨g, cap, cur, rfl, hnc, hcap, hbg, -, -, -⟩ := own_cells hown1 (by omega)
  refine (rrange_at _ o X m cc (hd.below hB1) k q Hfr.out Hq.out).mono ?_
  rintro e w2 ⟨rfl, hb2⟩
  have hB2 := below_step hB1 hb2 (Nat.le_refl _)
  have hac2 := hac1.keep hb2
  have hown2 := own_keep hown1 hb2
  rw [← doTo_zero f o] at hown2
  clear d0 d1 d2 d3 hac hac1 hba hb01 hg1 hat1 hown1 hB1 hb2 h1 h hA hs1
  go_wp2_with fail
  go_loopw [8] (fun jv wr => ∃ j : Nat, j ≤ q ∧ jv = .int .i64 (j : Int) ∧ wr.ownsRow (w.heap.size + 1) 62 1 (.slice (some ⟨g, 0, none⟩) n cap) n (nvs (vol n (doTo f o j))) ∧ Blk wr w.heap.size 67 #[.int .i64 o.kind, .int .i64 o.off, .int .i64 o.len, .slice X m cc] ∧ Below w.heap.size w wr) (fun jv _ => q - (intOf jv).toNat)
  case atStart => exact ⟨0, Nat.zero_le _, rfl, hown2, hac2, hB2⟩
  case round =>
    obtain ⟨j, hj, rfl, hO, hA, hb⟩ := hrel
    clear hown2 hac2 hB2
    by_cases hlt : j < q
    · have hjl : (j : Int) < (q : Int) := by omega
      have hj0 : (0 : Int) ≤ (j : Int) := by omega
      have hwj : IntKind.i64.wrap ((k : Int) + (j : Int)) = ((k + j : Nat) : Int) := by rw [IntKind.wrap_i64]; omega
      have hk0 : (0 : Int) ≤ ((k + j : Nat) : Int) := by omega
      have hkN : ((k + j : Nat) : Int) < (n : Int) := by omega
      have hkn : k + j < n := by omega
      obtain ⟨-, hse, hfz⟩ := own_at hO hkn
      obtain ⟨u, hu⟩ := Option.isSome_iff_exists.1 hse
      have hgne : w.heap.size ≠ g := by omega
      have hO1 := own_set1 hO (k + j) (.int .u64 0) hkn
      have hg1 := grown_setCell wr ⟨g, k + j, none⟩ (.int .u64 0)
      have hA1 := hA.grown hg1 (fun e => by simp only [Option.some.injEq] at e; omega)
      have hB1 : Below w.heap.size w (wr.setCell ⟨g, k + j, none⟩ (.int .u64 0)) := hb.setCell (by simp only; omega) _
      have d0 := hA.cell (j := 0) (u := .int .i64 o.kind) rfl
      have d3 := hA.cell (j := 3) (u := .slice X m cc) rfl
      clear hse hg1
      rcases Hform.out with ⟨k1, k2, k3⟩ | ⟨k1, k2⟩
      · have hqm : q = m := by
          have := hd.len
          have hc := Hq.out
          unfold BOp.cnt at hc
          rw [if_pos k1] at hc
          omega
        have hjm : (j : Int) < (m : Int) := by omega
        obtain ⟨bx, ox, rfl, hxl, cx0, hxlow⟩ := hd.ns.at_ (k := j) (by omega)
        have hbxl := cell_lt cx0
        simp only at hbxl
        have hbxg : bx ≠ g := by omega
        have cx := (hb.cell (cell_lt cx0)).trans cx0
        clear cx0
        have hv : o.val ((k + j : Nat) : Int) = o.data[j] := by
          unfold BOp.val
          rw [if_pos k1, Hk.out, show (((k + j : Nat) : Int) - (k : Int)).toNat = j by omega]
          simp [List.getD, List.getElem?_eq_getElem hxl]
        generalize o.data[j] = x at *
        have HS := Lib.hid (doTo_succ (f := f) Hk.out hv)
        have hO2 := own_set1 hO1 (k + j) (.int .u64 (x : Int)) hkn
        rw [List.set_set, nvs_set, vol_set HS.out] at hO2
        have hg2 := grown_setCell (wr.setCell ⟨g, k + j, none⟩ (.int .u64 0)) ⟨g, k + j, none⟩ (.int .u64 (x : Int))
        have hA2 := hA1.grown hg2 (fun e => by simp only [Option.some.injEq] at e; omega)
        have hB2 : Below w.heap.size w ((wr.setCell ⟨g, k + j, none⟩ (.int .u64 0)).setCell ⟨g, k + j, none⟩ (.int .u64 (x : Int))) := hB1.setCell (by simp only; omega) _
        have k1' : (o.kind == 1) = true := by simpa using k1
        clear hO hA hb hO1 hA1 hB1 hg2 hv hqm k1 k2 k3
        go_wp2
        go_roundw
        case rel => exact ⟨j + 1, by omega, by go_num, hO2, hA2, hB2⟩
        case measure => simp [intOf]; omega
      · have hv : o.val ((k + j : Nat) : Int) = 0 := by unfold BOp.val; rw [if_neg (by omega)]
        have HS := Lib.hid (doTo_succ (f := f) Hk.out hv)
        have e0 : Value.int .u64 0 = .int .u64 ((0 : Nat) : Int) := rfl
        rw [e0, nvs_set, vol_set HS.out, ← e0] at hO1
        have k1' : (o.kind == 1) = false := by simp; omega
        clear hO hA hb hv k1 k2 e0
        go_wp2
        go_roundw
        case rel => exact ⟨j + 1, by omega, by go_num, hO1, hA1, hB1⟩
        case measure => simp [intOf]; omega
    · have hjn : (q : Int) ≤ (j : Int) := by omega
      have hje : j = q := by omega
      rw [hje, doTo_all Hq.out] at hO
      clear hje
      go_wp2
      go_ret
      exact ⟨_, rfl, hO.mono (Nat.le_succ _), hb⟩
set_option maxRecDepth 100000 in
set_option maxHeartbeats 2000000 in
theorem rapply_ (A : Option Addr) (n c : Nat) (v : List Nat) (h : Ns w A n v) (hnm : n ≤ 9223372036854775807) (B : Option Addr) (k d : Nat) (l : List BOp) (hl : Opl w B k l) (hk : k ≤ 9223372036854775807) :
    Calls Try.prog 12 #[.slice A n c, .slice B k d] w fun e w' => AnsN w w' e (apE n l) (apL v l) := by
  obtain ⟨i0, hi0, hz0, hz1, hz2⟩ := u64_info
  have Hz := Lib.hid hz2
  clear hz2
  have hnv := h.len
  have hni : I64 (n : Int) := by unfold I64; omega
  have Hlen := Lib.hid hl.len
  have hapl := apL_low h.2 hl.low
  have hA : A = none → n = 0 := h.zero
  cases hm : manyB n with
  | false =>
    have He := Lib.hid (show apE n l = 6 by unfold apE; rw [hm]; rfl)
    have Hv := Lib.hid (show apL v l = [] by unfold apL; rw [← hnv, hm]; rfl)
    clear hnv
    go_enter Try.func12, Try.ntmps12
    go_wp2_with fail
    refine (rmany_ _ n hni).mono ?_
    rw [hm]
    rintro e w2 ⟨rfl, rfl⟩
    go_wp2
    go_ret2
    rw [He.out, Hv.out]
    exact ⟨none, 0, 0, rfl, GotN.no _ _, Below.refl _ _⟩
  | true =>
    have hn := many_nat hm
    have He := Lib.hid (show apE n l = if l.all (·.right n) then 0 else 1 by unfold apE; rw [hm]; rfl)
    have Hv := Lib.hid (show apL v l = if l.all (·.right n) then vol n (l.foldl doF (fun_ v)) else [] by unfold apL; rw [← hnv, hm]; rfl)
    have Hvv := Lib.hid (vol_is hnv)
    clear hnv
    go_enter Try.func12, Try.ntmps12
    go_wp2_with fail
    refine (rmany_ _ n hni).mono ?_
    rw [hm]
    rintro e w2 ⟨rfl, rfl⟩
    clear hm
    go_wp2_with fail
    go_loopw [6] (fun iv wr => ∃ i : Nat, i ≤ k ∧ iv = .int .i64 (i : Int) ∧ (l.drop i).all (·.right n) = l.all (·.right n) ∧ Below w.heap.size w wr) (fun iv _ => k - (intOf iv).toNat)
    case atStart => exact ⟨0, Nat.zero_le _, rfl, rfl, Below.refl _ _⟩
    case round =>
      obtain ⟨i, hi, rfl, hL, hb⟩ := hrel
      by_cases hlt : i < k
      · have hil : (i : Int) < (k : Int) := by omega
        have hi0 : (0 : Int) ≤ (i : Int) := by omega
        obtain ⟨b, o, X, m, cc, x, rfl, hx, c0, c1, c2, c3, hd⟩ := (hl.below hb).at_ hlt
        rw [drop_of hx, List.all_cons] at hL
        go_wp2_with fail
        refine (rright1_ _ n x X m cc hni hd).mono ?_
        cases hm : x.right n with
        | false =>
          have HB := Lib.hid (show l.all (·.right n) = false by rw [← hL, hm]; rfl)
          clear hL
          rintro e w' ⟨rfl, hb'⟩
          go_wp2
          go_ret2
          rw [He.out, Hv.out, HB.out]
          exact ⟨none, 0, 0, rfl, GotN.no _ _, below_step hb hb' (Nat.le_refl _)⟩
        | true =>
          have HL := Lib.hid (show (l.drop (i + 1)).all (·.right n) = l.all (·.right n) by rw [← hL, hm]; rfl)
          clear hL
          rintro e w' ⟨rfl, hb'⟩
          go_wp2
          go_roundw
          case rel => exact ⟨i + 1, by omega, by go_num, HL.out, below_step hb hb' (Nat.le_refl _)⟩
          case measure => simp [intOf]; omega
      · have hin : (k : Int) ≤ (i : Int) := by omega
        have HR := Lib.hid (show l.all (·.right n) = true by rw [← hL, List.drop_of_length_le (by have := Hlen.out; omega)]; rfl)
        clear hL
        have h1 := h.below hb
        go_wp2_with (first
          | (at_builtin
             go_must (refine wpList_app _ rfl (.const (.slice none 0 0)) (.tmp 27) _ rfl w.heap.size 62 i0 _ 1 8 Try.underlying27 hi0 hz0 hz1 Hz.out rfl Nat.one_pos (.slice none 0 0) 0 [] rfl (own_nil _ _ _ _) A n c (nvs v) rfl hA h1.1 (nvs_one _) (by unfold maxLen; omega) (by omega) hb.size ?_)
             intro v1 w1 hown1 hg1 hat1
             simp only [Nat.zero_add, List.nil_append] at hown1
             have hB1 : Below w.heap.size w w1 := hb.grown hg1 hb.size (fun k hk => by cases hk))
          | fail)
        rw [Hvv.out] at hown1
        clear h1 hg1 hat1 hb
        go_loopw [7, 8] (fun Vv iv wr => ∃ (i : Nat) (f : Int → Nat), i ≤ k ∧ iv = .int .i64 (i : Int) ∧ (l.drop i).foldl doF f = l.foldl doF (fun_ v) ∧ low64 f ∧ wr.ownsRow w.heap.size 62 1 Vv n (nvs (vol n f)) ∧ Below w.heap.size w wr) (fun _ iv _ => k - (intOf iv).toNat)
        case atStart => exact ⟨0, fun_ v, Nat.zero_le _, rfl, rfl, fun_low h.2, hown1, hB1⟩
        case round =>
          obtain ⟨i, f, hi, rfl, hL, hf, hO, hb⟩ := hrel
          obtain ⟨A7, c7, rfl, -, -, -⟩ := own_form hO
          clear hown1 hB1
          by_cases hlt : i < k
          · have hil : (i : Int) < (k : Int) := by omega
            have hi0 : (0 : Int) ≤ (i : Int) := by omega
            obtain ⟨b, o, X, m, cc, x, rfl, hx, c0, c1, c2, c3, hd⟩ := (hl.below hb).at_ hlt
            have hok := all_right HR.out (List.mem_of_getElem? hx)
            rw [drop_of hx, List.foldl_cons] at hL
            have HL := Lib.hid hL
            clear hL
            go_wp2_with fail
            refine (rone_ _ A7 n c7 f x X m cc (no_ns hO (vol_low hf)) hn hok hd).mono ?_
            rintro e w' ⟨V, rfl, hO2, hb2⟩
            have hO3 := hO2.mono hb.size
            have hf2 := low_do hf hd.ns.2
            go_wp2
            go_roundw
            case rel => exact ⟨i + 1, _, by omega, by go_num, HL.out, hf2, hO3, below_step hb hb2 (Nat.le_refl _)⟩
            case measure => simp [intOf]; omega
          · have hin : (k : Int) ≤ (i : Int) := by omega
            have HB := Lib.hid (show f = l.foldl doF (fun_ v) by rw [← hL, List.drop_of_length_le (by have := Hlen.out; omega)]; rfl)
            clear hL
            go_wp2
            go_ret2
            rw [He.out, HR.out]
            refine ⟨A7, n, c7, rfl, ⟨?_, hapl⟩, hb⟩
            rw [Hv.out, HR.out, if_pos rfl, ← HB.out]
            exact hO
end
end Blo
end Go.Proofs.Ytganoklclnbjkaa
