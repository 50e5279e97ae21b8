/- Layer 8: Squash, Diff. -/
import Derived.Test.YtfdfjnepfgabaaaBloK
set_option linter.all false
namespace Go.Proofs.Ytfdfjnepfgabaaa
open Go.RowKit
namespace Blo

theorem made_list (n : Nat) (u : Value) : (madeCells #[u] n).toList = List.replicate n u := by
  apply List.ext_getElem
  · simp [size_madeCells]
  · intro i h1 h2
    simp [madeCells, Nat.mod_one]
theorem own_blk {w : World} {g base n : Nat} {e : TypeId} {cs : Array Value} {xs : List Value} (h : Blk w g e cs) (hb : base ≤ g) (hn : n ≤ maxLen) (hs : cs.toList = xs) (hl : xs.length = n) : w.ownsRow base e 1 (.slice (some ⟨g, 0, none⟩) n n) n xs := by
  subst hs
  refine ⟨by omega, .inr ⟨g, n, cs, rfl, hb, h, Nat.le_refl _, hn, by simpa using hl, ?_⟩⟩
  rw [Nat.mul_one]
  exact List.take_of_length_le (by omega)
theorem vol_zero (n : Nat) : nvs (vol n fun _ => 0) = List.replicate n (.int .u64 0) := by
  rw [nvs_zeros]
  congr 1
  simp [vol, List.map_const']
theorem low_zero : low64 (fun _ => 0) := fun _ => Nat.zero_lt_succ _
theorem tvs_false (n : Nat) : tvs n (fun _ => false) = List.replicate n (.bool false) := by simp [tvs, List.map_const']
theorem info_bool : (Try.prog.info? 4).map (fun i => (i.zero, i.size, i.bytes)) = some (some (.bool false), 1, 1) := by kernel_rfl
theorem bool_info : ∃ i, Try.prog.info? 4 = some i ∧ i.zero = some (.bool false) ∧ i.size = 1 ∧ i.bytes = 1 := by
  obtain ⟨i, hi, he⟩ := Option.map_eq_some_iff.1 info_bool
  simp only [Prod.mk.injEq] at he
  exact ⟨i, hi, he.1, he.2.1, he.2.2⟩
theorem take_succ_of {α : Type} {l : List α} {k : Nat} {x : α} (h : l[k]? = some x) : l.take (k + 1) = l.take k ++ [x] := by
  rw [List.take_add_one, h]; rfl
/-- Touched by some ops. -/
def tch (l : List BOp) (i : Nat) : Bool := (told l (i : Int)).isSome
/-- Touched by the first j blocks of an op, too. -/
def tchTo (l : List BOp) (k j : Nat) (i : Nat) : Bool := tch l i || (decide (k ≤ i) && decide (i < k + j))
theorem tchTo_zero (l : List BOp) (k : Nat) : tchTo l k 0 = tch l := by
  funext i
  unfold tchTo
  have : (decide (k ≤ i) && decide (i < k + 0)) = false := by rw [Bool.eq_false_iff]; intro e; simp only [Bool.and_eq_true, decide_eq_true_eq] at e; omega
  rw [this, Bool.or_false]
theorem tchTo_all {l : List BOp} {x : BOp} {k q : Nat} (hk : x.off = (k : Int)) (hq : x.cnt = (q : Int)) : tchTo l k q = tch (l ++ [x]) := by
  funext i
  unfold tchTo tch
  rw [told_snoc]
  by_cases h : k ≤ i ∧ i < k + q
  · rw [if_pos (BOp.at_iff.2 ⟨by omega, by omega⟩)]
    simp [h.1, h.2]
  · rw [if_neg (fun e => by have := BOp.at_iff.1 e; omega)]
    have : (decide (k ≤ i) && decide (i < k + q)) = false := by
      rw [Bool.eq_false_iff]; intro e; simp only [Bool.and_eq_true, decide_eq_true_eq] at e; exact h e
    rw [this, Bool.or_false]
theorem tvs_set {n i : Nat} {tc tc' : Nat → Bool} (b : Bool) (h : tc' = fun j => if j = i then b else tc j) : (tvs n tc).set i (.bool b) = tvs n tc' := by
  subst h
  apply List.ext_getElem
  · simp [tvs]
  · intro j h1 h2
    by_cases e : i = j
    · subst e; simp [tvs]
    · rw [List.getElem_set_ne e]
      simp [tvs, Ne.symm e]
theorem tchTo_succ {l : List BOp} {k j : Nat} : tchTo l k (j + 1) = fun i => if i = k + j then true else tchTo l k j i := by
  funext i
  unfold tchTo
  by_cases e : i = k + j
  · rw [if_pos e]; simp; omega
  · rw [if_neg e]
    congr 1
    have : decide (i < k + (j + 1)) = decide (i < k + j) := by rw [decide_eq_decide]; omega
    rw [this]
def sqE (n : Int) (l : List BOp) : Int := if manyB n && l.all (·.right n) then 0 else 1
def sqL (n : Int) (l : List BOp) : List BOp := if manyB n && l.all (·.right n) then shortS (fun i => told l (i : Int)) n.toNat else []
theorem tof_told (l : List BOp) (f : Int → Nat) : tof (tch l) (l.foldl doF f) = fun (i : Nat) => told l (i : Int) := by
  funext i
  unfold tof tch
  rw [do_told]
  cases told l (i : Int) <;> rfl
/-- Ops that were answered. -/
def AnsO (w w' : World) (e : Ending) (er : Int) (l : List BOp) : Prop := ∃ A m c L, e = .returned (.tuple #[.slice A m c, .int .i64 er]) ∧ Ol w' w.heap.size (.slice A m c) m L ∧ L.map Prod.fst = l ∧ Below w.heap.size w w'
theorem own_at {w : World} {base : Nat} {e : TypeId} {g n cap : Nat} {xs : List Value} (h : w.ownsRow base e 1 (.slice (some ⟨g, 0, none⟩) n cap) n xs) {j : Nat} (hj : j < n) : w.cell? ⟨g, j, none⟩ = xs[j]? ∧ (w.cell? ⟨g, j, none⟩).isSome = true ∧ w.frozen? ⟨g, j, none⟩ = false := by
  obtain ⟨g', cap', cur, ev, hnc, -, -, hb, hcs, hx⟩ := own_cells h (by omega)
  injection ev with ev _ _
  injection ev with ev
  injection ev with ev
  subst ev
  have hc : cur[j]? = some cur[j] := Array.getElem?_eq_getElem (by omega)
  have h1 := hb.cell hc
  refine ⟨?_, by rw [h1]; rfl, hb.free _⟩
  rw [h1, ← hx, List.getElem?_take, if_pos hj, Array.getElem?_toList, hc]
section
variable (w : World)
set_option maxRecDepth 100000 in
set_option maxHeartbeats 2000000 in
theorem squash_ (n : Int) (B : Option Addr) (k d : Nat) (l : List BOp) (hn : I64 n) (hl : Opl w B k l) (hk : k ≤ 9223372036854775807) :
    Calls Try.prog 34 #[.int .i64 n, .slice B k d] w fun e w' => AnsO w w' e (sqE n l) (sqL n l) := by
  obtain ⟨i1, hi1, hy0, hy1, hy2⟩ := u64_info
  obtain ⟨i0, hi0, hz0, hz1, hz2⟩ := bool_info
  have Hy := Lib.hid hy2
  have Hz := Lib.hid hz2
  clear hy2 hz2
  have Hlen := Lib.hid hl.len
  have Hlow := Lib.hid hl.low
  cases hm : manyB n with
  | false =>
    have He := Lib.hid (show sqE n l = 1 by unfold sqE; rw [hm]; rfl)
    have Hv := Lib.hid (show sqL n l = [] by unfold sqL; rw [hm]; rfl)
    go_enter Try.func34, Try.ntmps34
    go_wp2_with fail
    refine (volume_ _ n hn).mono ?_
    rw [hm]
    rintro e w2 ⟨rfl, rfl⟩
    go_wp2
    go_ret2
    rw [He.out, Hv.out]
    exact ⟨none, 0, 0, [], rfl, Ol.nil _ _, rfl, Below.refl _ _⟩
  | true =>
    cases hr : l.all (·.right n) with
    | false =>
      have He := Lib.hid (show sqE n l = 1 by unfold sqE; rw [hm, hr]; rfl)
      have Hv := Lib.hid (show sqL n l = [] by unfold sqL; rw [hm, hr]; rfl)
      go_enter Try.func34, Try.ntmps34
      go_wp2_with fail
      refine (volume_ _ n hn).mono ?_
      rw [hm]
      rintro e w2 ⟨rfl, rfl⟩
      go_wp2_with fail
      refine (right_ _ n B k d l hn hl hk).mono ?_
      rw [hr]
      rintro e w2 ⟨rfl, hb2⟩
      go_wp2
      go_ret2
      rw [He.out, Hv.out]
      exact ⟨none, 0, 0, [], rfl, Ol.nil _ _, rfl, hb2⟩
    | true =>
      have He := Lib.hid (show sqE n l = 0 by unfold sqE; rw [hm, hr]; rfl)
      have Hv := Lib.hid (show sqL n l = shortS (tof (tch l) (l.foldl doF fun _ => 0)) n.toNat by unfold sqL; rw [hm, hr, tof_told]; rfl)
      obtain ⟨N, rfl⟩ : ∃ N : Nat, n = (N : Int) := Int.eq_ofNat_of_zero_le (by simp [manyB] at hm; omega)
      have hN := many_nat hm
      simp only [Int.toNat_natCast] at Hv
      go_enter Try.func34, Try.ntmps34
      go_wp2_with fail
      refine (volume_ _ N hn).mono ?_
      rw [hm]
      rintro e w2 ⟨rfl, rfl⟩
      go_wp2_with fail
      refine (right_ _ N B k d l hn hl hk).mono ?_
      rw [hr]
      rintro e w2 ⟨rfl, hb2⟩
      have hALL := Lib.hid hr
      clear hm hr
      go_wp2_with fail
      go_region_held3 (fun _ => True) (first | exact trivial)
        (first
          | (refine upon_make _ 23 51 i1 _ 1 8 Try.underlying23 hi1 hy0 hy1 Hy.out .i64 .i64 _ _ N rfl rfl (by omega) (by omega) ?_
             intro w3 hk3 hb3 hs3)
          | (refine upon_make _ 82 4 i0 _ 1 1 Try.underlying82 hi0 hz0 hz1 Hz.out .i64 .i64 _ _ N rfl rfl (by omega) (by omega) ?_
             intro w4 hk4 hb4 hs4))
      · have hs2 := hb2.size
        rw [show w2.drew.heap.size = w2.heap.size from rfl] at hk3 hb3 hs3
        have hB3 : Below w.heap.size w w3 := hb2.trans ((⟨hb3.os, hb3.tape, hb3.output, hb3.size, hb3.block⟩ : Below w2.heap.size w2 w3).mono hs2)
        have hB : Below w.heap.size w w4 := below_step hB3 hb4 (Nat.le_refl _)
        have hV : w4.ownsRow w.heap.size 51 1 (.slice (some ⟨w2.heap.size, 0, none⟩) N N) N (nvs (vol N (([] : List BOp).foldl doF fun _ => 0))) := own_blk (hk3.keep hb4) hs2 (by unfold maxLen; omega) (by rw [Nat.mul_one]; exact (made_list N _).trans (vol_zero N).symm) (by rw [nvs_length, vol_length])
        have hT : w4.ownsRow w.heap.size 4 1 (.slice (some ⟨w2.heap.size + 1, 0, none⟩) N N) N (tvs N (tch [])) := own_blk (by rw [← hs3]; exact hk4) (by omega) (by unfold maxLen; omega) (by rw [Nat.mul_one]; exact (made_list N _).trans (tvs_false N).symm) (tvs_length _ _)
        clear hk3 hk4 hb3 hb4 hs3 hs4 hB3 hs2 hb2
        generalize w2.heap.size = gv at *
        generalize gv + 1 = gt at *
        have hne : gv ≠ gt := fun e => own_ne hV hT (by decide) (g := gv) rfl (by rw [e]; rfl)
        have hgv := hV.lt gv rfl
        have hgt := hT.lt gt rfl
        go_wp2_with fail
        go_loopw [28] (fun iv wr => ∃ i : Nat, i ≤ k ∧ iv = .int .i64 (i : Int) ∧ wr.ownsRow w.heap.size 51 1 (.slice (some ⟨gv, 0, none⟩) N N) N (nvs (vol N ((l.take i).foldl doF fun _ => 0))) ∧ wr.ownsRow w.heap.size 4 1 (.slice (some ⟨gt, 0, none⟩) N N) N (tvs N (tch (l.take i))) ∧ Below w.heap.size w wr) (fun iv _ => k - (intOf iv).toNat)
        case atStart => exact ⟨0, Nat.zero_le _, rfl, hV, hT, hB⟩
        case round =>
          obtain ⟨i, hi, rfl, hVr, hTr, hb⟩ := hrel
          clear hV hT hB
          by_cases hlt : i < k
          · have hil : (i : Int) < (k : Int) := by omega
            have hi0 : (0 : Int) ≤ (i : Int) := by omega
            obtain ⟨bo, oo, X, m, cc, x, rfl, hx, c0', c1', c2', c3', hd⟩ := hl.at_ hlt
            have c0 := (hb.cell (cell_lt c0')).trans c0'
            have c1 := (hb.cell (cell_lt c1')).trans c1'
            have c2 := (hb.cell (cell_lt c2')).trans c2'
            have c3 := (hb.cell (cell_lt c3')).trans c3'
            clear c0' c1' c2' c3'
            have hok := all_right hALL.out (List.mem_of_getElem? hx)
            have HT := Lib.hid (take_succ_of hx)
            obtain ⟨kx, hkx⟩ := Int.eq_ofNat_of_zero_le hok.low
            obtain ⟨qx, hqx⟩ := Int.eq_ofNat_of_zero_le (show 0 ≤ x.cnt by have := hok.some; omega)
            have hkq : kx + qx ≤ N := by have := hok.high; omega
            have Hkx := Lib.hid hkx
            have Hqx := Lib.hid hqx
            have Hfr := Lib.hid (show x.from_ = (kx : Int) by rw [from_ok hok, hkx])
            clear hkx hqx hx
            have hba : Below w.heap.size w (wr.alloc (.cells #[.int .i64 x.kind, .int .i64 x.off, .int .i64 x.len, .slice X m cc] 76)) := hb.alloc hb.size _
            have hac := Blk.new wr 76 #[.int .i64 x.kind, .int .i64 x.off, .int .i64 x.len, .slice X m cc] rfl
            have hbb : Below wr.heap.size wr (wr.alloc (.cells #[.int .i64 x.kind, .int .i64 x.off, .int .i64 x.len, .slice X m cc] 76)) := (Below.refl _ _).alloc (Nat.le_refl _) _
            have hV1 := own_keep hVr hbb
            have hT1 := own_keep hTr hbb
            have hgv1 := (hVr.lt gv rfl).2
            have hbz := hba.size
            clear hVr hTr hb hbb
            go_wp2_with fail
            refine (do_ _ w.heap.size _ N _ x X m cc hV1 hbz hN hok (hd.below hba)).mono ?_
            rintro e w5 ⟨rfl, hV5, hg5⟩
            have hT5 := own_grown hT1 hg5 (fun q hq e => by simp only [Value.ownBlock, Option.some.injEq] at hq e; omega)
            have hB5 : Below w.heap.size w w5 := hba.grown hg5 hbz (own_from hV1)
            have hac5 : Blk w5 wr.heap.size 76 #[.int .i64 x.kind, .int .i64 x.off, .int .i64 x.len, .slice X m cc] := hac.grown hg5 (fun e => by simp only [Value.ownBlock, Option.some.injEq] at e; omega)
            have d0 := hac5.cell (j := 0) (u := .int .i64 x.kind) rfl
            have d1 := hac5.cell (j := 1) (u := .int .i64 x.off) rfl
            have d2 := hac5.cell (j := 2) (u := .int .i64 x.len) rfl
            have d3 := hac5.cell (j := 3) (u := .slice X m cc) rfl
            clear hV1 hT1 hba hac hg5 hac5 hbz
            go_wp2_with fail
            refine (range_at _ x X m cc (hd.below hB5) kx qx Hfr.out Hqx.out).mono ?_
            rintro e w6 ⟨rfl, hb6⟩
            have hV6 := own_keep hV5 hb6
            have hT6 : w6.ownsRow w.heap.size 4 1 (.slice (some ⟨gt, 0, none⟩) N N) N (tvs N (tchTo (l.take i) kx 0)) := by rw [tchTo_zero]; exact own_keep hT5 hb6
            have hB6 := below_step hB5 hb6 (Nat.le_refl _)
            have Hf := Lib.hid (show doF ((l.take i).foldl doF fun _ => 0) x = (l.take (i + 1)).foldl doF fun _ => 0 by rw [HT.out, List.foldl_append]; rfl)
            have Ht := Lib.hid (show tchTo (l.take i) kx qx = tch (l.take (i + 1)) by rw [HT.out]; exact tchTo_all Hkx.out Hqx.out)
            clear hV5 hT5 hB5 hb6 d0 d1 d2 d3 hok hd
            go_wp2_with fail
            go_loopw [41] (fun jv wx => ∃ j : Nat, j ≤ qx ∧ jv = .int .i64 (j : Int) ∧ wx.ownsRow w.heap.size 51 1 (.slice (some ⟨gv, 0, none⟩) N N) N (nvs (vol N (doF ((l.take i).foldl doF fun _ => 0) x))) ∧ wx.ownsRow w.heap.size 4 1 (.slice (some ⟨gt, 0, none⟩) N N) N (tvs N (tchTo (l.take i) kx j)) ∧ Below w.heap.size w wx) (fun jv _ => qx - (intOf jv).toNat)
            case atStart => exact ⟨0, Nat.zero_le _, rfl, hV6, hT6, hB6⟩
            case round =>
              obtain ⟨j, hj, rfl, hVx, hTx, hbx⟩ := hrel
              clear hV6 hT6 hB6
              by_cases hjq : j < qx
              · have hjl : (j : Int) < (qx : Int) := by omega
                have hj0 : (0 : Int) ≤ (j : Int) := by omega
                have hwj : IntKind.i64.wrap ((kx : Int) + (j : Int)) = ((kx + j : Nat) : Int) := by rw [IntKind.wrap_i64]; omega
                have hk0 : (0 : Int) ≤ ((kx + j : Nat) : Int) := by omega
                have hkN : ((kx + j : Nat) : Int) < (N : Int) := by omega
                have hkn : kx + j < N := by omega
                obtain ⟨-, hse, hfz⟩ := own_at hTx hkn
                obtain ⟨u, hu⟩ := Option.isSome_iff_exists.1 hse
                have HS := Lib.hid (tvs_set (n := N) (i := kx + j) true (tchTo_succ (l := l.take i) (k := kx) (j := j)))
                have hT7 := own_set1 hTx (kx + j) (.bool true) hkn
                rw [HS.out] at hT7
                have hg7 := grown_setCell wr ⟨gt, kx + j, none⟩ (.bool true)
                have hV7 := own_grown hVx hg7 (fun q hq e => by simp only [Value.ownBlock, Option.some.injEq] at hq e; omega)
                have hB7 : Below w.heap.size w (wr.setCell ⟨gt, kx + j, none⟩ (.bool true)) := hbx.setCell hgt.1 _
                clear hse hVx hTx hbx hg7
                go_wp2
                go_roundw
                case rel => exact ⟨j + 1, by omega, by go_num, hV7, hT7, hB7⟩
                case measure => simp [intOf]; omega
              · have hjn : (qx : Int) ≤ (j : Int) := by omega
                have hje : j = qx := by omega
                rw [hje, Ht.out] at hTx
                rw [Hf.out] at hVx
                clear hje
                go_wp2
                go_roundw
                case rel => exact ⟨i + 1, by omega, by go_num, hVx, hTx, hbx⟩
                case measure => simp [intOf]; omega
          · have hin : (k : Int) ≤ (i : Int) := by omega
            have hta : l.take i = l := List.take_of_length_le (by have := Hlen.out; omega)
            rw [hta] at hVr hTr
            have hll := foldl_low Hlow.out (f := fun _ => 0) low_zero
            clear hta
            go_wp2_with fail
            refine (shortly_ wr (some ⟨gv, 0, none⟩) (some ⟨gt, 0, none⟩) N N N _ (tch l) hN (no_ns hVr (vol_low hll)) hll (rd_own hTr)).mono ?_
            rintro e w8 ⟨v8, n8, L8, rfl, hO8, hL8, hb8⟩
            obtain ⟨A8, c8, rfl, -, -, -⟩ := own_form hO8.row
            have HL8 := Lib.hid hL8
            clear hL8
            go_wp2
            go_ret2
            rw [He.out, Hv.out]
            exact ⟨A8, n8, c8, L8, rfl, hO8.mono hb.size, HL8.out, below_step hb hb8 (Nat.le_refl _)⟩
      · have hs2 := hb2.size
        rw [show w2.drew.heap.size = w2.heap.size from rfl] at hk4 hb4 hs4
        have hB3 : Below w.heap.size w w4 := hb2.trans ((⟨hb4.os, hb4.tape, hb4.output, hb4.size, hb4.block⟩ : Below w2.heap.size w2 w4).mono hs2)
        have hB : Below w.heap.size w w3 := below_step hB3 hb3 (Nat.le_refl _)
        have hT : w3.ownsRow w.heap.size 4 1 (.slice (some ⟨w2.heap.size, 0, none⟩) N N) N (tvs N (tch [])) := own_blk (hk4.keep hb3) hs2 (by unfold maxLen; omega) (by rw [Nat.mul_one]; exact (made_list N _).trans (tvs_false N).symm) (tvs_length _ _)
        have hV : w3.ownsRow w.heap.size 51 1 (.slice (some ⟨w2.heap.size + 1, 0, none⟩) N N) N (nvs (vol N (([] : List BOp).foldl doF fun _ => 0))) := own_blk (by rw [← hs4]; exact hk3) (by omega) (by unfold maxLen; omega) (by rw [Nat.mul_one]; exact (made_list N _).trans (vol_zero N).symm) (by rw [nvs_length, vol_length])
        clear hk3 hk4 hb3 hb4 hs3 hs4 hB3 hs2 hb2
        generalize w2.heap.size = gt at *
        generalize gt + 1 = gv at *
        have hne : gv ≠ gt := fun e => own_ne hV hT (by decide) (g := gv) rfl (by rw [e]; rfl)
        have hgv := hV.lt gv rfl
        have hgt := hT.lt gt rfl
        go_wp2_with fail
        go_loopw [28] (fun iv wr => ∃ i : Nat, i ≤ k ∧ iv = .int .i64 (i : Int) ∧ wr.ownsRow w.heap.size 51 1 (.slice (some ⟨gv, 0, none⟩) N N) N (nvs (vol N ((l.take i).foldl doF fun _ => 0))) ∧ wr.ownsRow w.heap.size 4 1 (.slice (some ⟨gt, 0, none⟩) N N) N (tvs N (tch (l.take i))) ∧ Below w.heap.size w wr) (fun iv _ => k - (intOf iv).toNat)
        case atStart => exact ⟨0, Nat.zero_le _, rfl, hV, hT, hB⟩
        case round =>
          obtain ⟨i, hi, rfl, hVr, hTr, hb⟩ := hrel
          clear hV hT hB
          by_cases hlt : i < k
          · have hil : (i : Int) < (k : Int) := by omega
            have hi0 : (0 : Int) ≤ (i : Int) := by omega
            obtain ⟨bo, oo, X, m, cc, x, rfl, hx, c0', c1', c2', c3', hd⟩ := hl.at_ hlt
            have c0 := (hb.cell (cell_lt c0')).trans c0'
            have c1 := (hb.cell (cell_lt c1')).trans c1'
            have c2 := (hb.cell (cell_lt c2')).trans c2'
            have c3 := (hb.cell (cell_lt c3')).trans c3'
            clear c0' c1' c2' c3'
            have hok := all_right hALL.out (List.mem_of_getElem? hx)
            have HT := Lib.hid (take_succ_of hx)
            obtain ⟨kx, hkx⟩ := Int.eq_ofNat_of_zero_le hok.low
            obtain ⟨qx, hqx⟩ := Int.eq_ofNat_of_zero_le (show 0 ≤ x.cnt by have := hok.some; omega)
            have hkq : kx + qx ≤ N := by have := hok.high; omega
            have Hkx := Lib.hid hkx
            have Hqx := Lib.hid hqx
            have Hfr := Lib.hid (show x.from_ = (kx : Int) by rw [from_ok hok, hkx])
            clear hkx hqx hx
            have hba : Below w.heap.size w (wr.alloc (.cells #[.int .i64 x.kind, .int .i64 x.off, .int .i64 x.len, .slice X m cc] 76)) := hb.alloc hb.size _
            have hac := Blk.new wr 76 #[.int .i64 x.kind, .int .i64 x.off, .int .i64 x.len, .slice X m cc] rfl
            have hbb : Below wr.heap.size wr (wr.alloc (.cells #[.int .i64 x.kind, .int .i64 x.off, .int .i64 x.len, .slice X m cc] 76)) := (Below.refl _ _).alloc (Nat.le_refl _) _
            have hV1 := own_keep hVr hbb
            have hT1 := own_keep hTr hbb
            have hgv1 := (hVr.lt gv rfl).2
            have hbz := hba.size
            clear hVr hTr hb hbb
            go_wp2_with fail
            refine (do_ _ w.heap.size _ N _ x X m cc hV1 hbz hN hok (hd.below hba)).mono ?_
            rintro e w5 ⟨rfl, hV5, hg5⟩
            have hT5 := own_grown hT1 hg5 (fun q hq e => by simp only [Value.ownBlock, Option.some.injEq] at hq e; omega)
            have hB5 : Below w.heap.size w w5 := hba.grown hg5 hbz (own_from hV1)
            have hac5 : Blk w5 wr.heap.size 76 #[.int .i64 x.kind, .int .i64 x.off, .int .i64 x.len, .slice X m cc] := hac.grown hg5 (fun e => by simp only [Value.ownBlock, Option.some.injEq] at e; omega)
            have d0 := hac5.cell (j := 0) (u := .int .i64 x.kind) rfl
            have d1 := hac5.cell (j := 1) (u := .int .i64 x.off) rfl
            have d2 := hac5.cell (j := 2) (u := .int .i64 x.len) rfl
            have d3 := hac5.cell (j := 3) (u := .slice X m cc) rfl
            clear hV1 hT1 hba hac hg5 hac5 hbz
            go_wp2_with fail
            refine (range_at _ x X m cc (hd.below hB5) kx qx Hfr.out Hqx.out).mono ?_
            rintro e w6 ⟨rfl, hb6⟩
            have hV6 := own_keep hV5 hb6
            have hT6 : w6.ownsRow w.heap.size 4 1 (.slice (some ⟨gt, 0, none⟩) N N) N (tvs N (tchTo (l.take i) kx 0)) := by rw [tchTo_zero]; exact own_keep hT5 hb6
            have hB6 := below_step hB5 hb6 (Nat.le_refl _)
            have Hf := Lib.hid (show doF ((l.take i).foldl doF fun _ => 0) x = (l.take (i + 1)).foldl doF fun _ => 0 by rw [HT.out, List.foldl_append]; rfl)
            have Ht := Lib.hid (show tchTo (l.take i) kx qx = tch (l.take (i + 1)) by rw [HT.out]; exact tchTo_all Hkx.out Hqx.out)
            clear hV5 hT5 hB5 hb6 d0 d1 d2 d3 hok hd
            go_wp2_with fail
            go_loopw [41] (fun jv wx => ∃ j : Nat, j ≤ qx ∧ jv = .int .i64 (j : Int) ∧ wx.ownsRow w.heap.size 51 1 (.slice (some ⟨gv, 0, none⟩) N N) N (nvs (vol N (doF ((l.take i).foldl doF fun _ => 0) x))) ∧ wx.ownsRow w.heap.size 4 1 (.slice (some ⟨gt, 0, none⟩) N N) N (tvs N (tchTo (l.take i) kx j)) ∧ Below w.heap.size w wx) (fun jv _ => qx - (intOf jv).toNat)
            case atStart => exact ⟨0, Nat.zero_le _, rfl, hV6, hT6, hB6⟩
            case round =>
              obtain ⟨j, hj, rfl, hVx, hTx, hbx⟩ := hrel
              clear hV6 hT6 hB6
              by_cases hjq : j < qx
              · have hjl : (j : Int) < (qx : Int) := by omega
                have hj0 : (0 : Int) ≤ (j : Int) := by omega
                have hwj : IntKind.i64.wrap ((kx : Int) + (j : Int)) = ((kx + j : Nat) : Int) := by rw [IntKind.wrap_i64]; omega
                have hk0 : (0 : Int) ≤ ((kx + j : Nat) : Int) := by omega
                have hkN : ((kx + j : Nat) : Int) < (N : Int) := by omega
                have hkn : kx + j < N := by omega
                obtain ⟨-, hse, hfz⟩ := own_at hTx hkn
                obtain ⟨u, hu⟩ := Option.isSome_iff_exists.1 hse
                have HS := Lib.hid (tvs_set (n := N) (i := kx + j) true (tchTo_succ (l := l.take i) (k := kx) (j := j)))
                have hT7 := own_set1 hTx (kx + j) (.bool true) hkn
                rw [HS.out] at hT7
                have hg7 := grown_setCell wr ⟨gt, kx + j, none⟩ (.bool true)
                have hV7 := own_grown hVx hg7 (fun q hq e => by simp only [Value.ownBlock, Option.some.injEq] at hq e; omega)
                have hB7 : Below w.heap.size w (wr.setCell ⟨gt, kx + j, none⟩ (.bool true)) := hbx.setCell hgt.1 _
                clear hse hVx hTx hbx hg7
                go_wp2
                go_roundw
                case rel => exact ⟨j + 1, by omega, by go_num, hV7, hT7, hB7⟩
                case measure => simp [intOf]; omega
              · have hjn : (qx : Int) ≤ (j : Int) := by omega
                have hje : j = qx := by omega
                rw [hje, Ht.out] at hTx
                rw [Hf.out] at hVx
                clear hje
                go_wp2
                go_roundw
                case rel => exact ⟨i + 1, by omega, by go_num, hVx, hTx, hbx⟩
                case measure => simp [intOf]; omega
          · have hin : (k : Int) ≤ (i : Int) := by omega
            have hta : l.take i = l := List.take_of_length_le (by have := Hlen.out; omega)
            rw [hta] at hVr hTr
            have hll := foldl_low Hlow.out (f := fun _ => 0) low_zero
            clear hta
            go_wp2_with fail
            refine (shortly_ wr (some ⟨gv, 0, none⟩) (some ⟨gt, 0, none⟩) N N N _ (tch l) hN (no_ns hVr (vol_low hll)) hll (rd_own hTr)).mono ?_
            rintro e w8 ⟨v8, n8, L8, rfl, hO8, hL8, hb8⟩
            obtain ⟨A8, c8, rfl, -, -, -⟩ := own_form hO8.row
            have HL8 := Lib.hid hL8
            clear hL8
            go_wp2
            go_ret2
            rw [He.out, Hv.out]
            exact ⟨A8, n8, c8, L8, rfl, hO8.mono hb.size, HL8.out, below_step hb hb8 (Nat.le_refl _)⟩
end
end Blo
end Go.Proofs.Ytfdfjnepfgabaaa
