/- XBloL, XBloN. -/
import Derived.Test.YtfcfffilfmbpeaaBloK
set_option linter.all false
namespace Go.Proofs.Ytfcfffilfmbpeaa
open Go.RowKit
namespace Blo

theorem made_list (n : Nat) (u : Value) : (madeCells #[u] n).toList = List.replicate n u := by
  apply List.ext_getElem
  · simp [size_madeCells]
  · intro i h1 h2
    simp [madeCells, Nat.mod_one]
theorem own_blk {w : World} {g base n : Nat} {e : TypeId} {cs : Array Value} {xs : List Value} (h : Blk w g e cs) (hb : base ≤ g) (hn : n ≤ maxLen) (hs : cs.toList = xs) (hl : xs.length = n) : w.ownsRow base e 1 (.slice (some ⟨g, 0, none⟩) n n) n xs := by
  subst hs
  refine ⟨by omega, .inr ⟨g, n, cs, rfl, hb, h, Nat.le_refl _, hn, by simpa using hl, ?_⟩⟩
  rw [Nat.mul_one]
  exact List.take_of_length_le (by omega)
theorem vol_zero (n : Nat) : nvs (vol n fun _ => 0) = List.replicate n (.int .u64 0) := by
  rw [nvs_zeros]
  congr 1
  simp [vol, List.map_const']
theorem low_zero : low64 (fun _ => 0) := fun _ => Nat.zero_lt_succ _
theorem tvs_false (n : Nat) : tvs n (fun _ => false) = List.replicate n (.bool false) := by simp [tvs, List.map_const']
theorem info_bool : (Try.prog.info? 4).map (fun i => (i.zero, i.size, i.bytes)) = some (some (.bool false), 1, 1) := by kernel_rfl
theorem bool_info : ∃ i, Try.prog.info? 4 = some i ∧ i.zero = some (.bool false) ∧ i.size = 1 ∧ i.bytes = 1 := by
  obtain ⟨i, hi, he⟩ := Option.map_eq_some_iff.1 info_bool
  simp only [Prod.mk.injEq] at he
  exact ⟨i, hi, he.1, he.2.1, he.2.2⟩
theorem take_succ_of {α : Type} {l : List α} {k : Nat} {x : α} (h : l[k]? = some x) : l.take (k + 1) = l.take k ++ [x] := by
  rw [List.take_add_one, h]; rfl
/-- Touched by some ops. -/
def tch (l : List BOp) (i : Nat) : Bool := (told l (i : Int)).isSome
/-- Touched by the first j blocks of an op, too. -/
def tchTo (l : List BOp) (k j : Nat) (i : Nat) : Bool := tch l i || (decide (k ≤ i) && decide (i < k + j))
theorem tchTo_zero (l : List BOp) (k : Nat) : tchTo l k 0 = tch l := by
  funext i
  unfold tchTo
  have : (decide (k ≤ i) && decide (i < k + 0)) = false := by rw [Bool.eq_false_iff]; intro e; simp only [Bool.and_eq_true, decide_eq_true_eq] at e; omega
  rw [this, Bool.or_false]
theorem tchTo_all {l : List BOp} {x : BOp} {k q : Nat} (hk : x.off = (k : Int)) (hq : x.cnt = (q : Int)) : tchTo l k q = tch (l ++ [x]) := by
  funext i
  unfold tchTo tch
  rw [told_snoc]
  by_cases h : k ≤ i ∧ i < k + q
  · rw [if_pos (BOp.at_iff.2 ⟨by omega, by omega⟩)]
    simp [h.1, h.2]
  · rw [if_neg (fun e => by have := BOp.at_iff.1 e; omega)]
    have : (decide (k ≤ i) && decide (i < k + q)) = false := by
      rw [Bool.eq_false_iff]; intro e; simp only [Bool.and_eq_true, decide_eq_true_eq] at e; exact h e
    rw [this, Bool.or_false]
theorem tvs_set {n i : Nat} {tc tc' : Nat → Bool} (b : Bool) (h : tc' = fun j => if j = i then b else tc j) : (tvs n tc).set i (.bool b) = tvs n tc' := by
  subst h
  apply List.ext_getElem
  · simp [tvs]
  · intro j h1 h2
    by_cases e : i = j
    · subst e; simp [tvs]
    · rw [List.getElem_set_ne e]
      simp [tvs, Ne.symm e]
theorem tchTo_succ {l : List BOp} {k j : Nat} : tchTo l k (j + 1) = fun i => if i = k + j then true else tchTo l k j i := by
  funext i
  unfold tchTo
  by_cases e : i = k + j
  · rw [if_pos e]; simp; omega
  · rw [if_neg e]
    congr 1
    have : decide (i < k + (j + 1)) = decide (i < k + j) := by rw [decide_eq_decide]; omega
    rw [this]
def sqE (n : Int) (l : List BOp) : Int := if manyB n && l.all (·.right n) then 0 else 1
def sqL (n : Int) (l : List BOp) : List BOp := if manyB n && l.all (·.right n) then shortS (fun i => told l (i : Int)) n.toNat else []
theorem tof_told (l : List BOp) (f : Int → Nat) : tof (tch l) (l.foldl doF f) = fun (i : Nat) => told l (i : Int) := by
  funext i
  unfold tof tch
  rw [do_told]
  cases told l (i : Int) <;> rfl
/-- Ops that were answered. -/
def AnsO (w w' : World) (e : Ending) (er : Int) (l : List BOp) : Prop := ∃ A m c L, e = .returned (.tuple #[.slice A m c, .int .i64 er]) ∧ Ol w' w.heap.size (.slice A m c) m L ∧ L.map Prod.fst = l ∧ Below w.heap.size w w'
theorem own_at {w : World} {base : Nat} {e : TypeId} {g n cap : Nat} {xs : List Value} (h : w.ownsRow base e 1 (.slice (some ⟨g, 0, none⟩) n cap) n xs) {j : Nat} (hj : j < n) : w.cell? ⟨g, j, none⟩ = xs[j]? ∧ (w.cell? ⟨g, j, none⟩).isSome = true ∧ w.frozen? ⟨g, j, none⟩ = false := by
  obtain ⟨g', cap', cur, ev, hnc, -, -, hb, hcs, hx⟩ := own_cells h (by omega)
  injection ev with ev _ _
  injection ev with ev
  injection ev with ev
  subst ev
  have hc : cur[j]? = some cur[j] := Array.getElem?_eq_getElem (by omega)
  have h1 := hb.cell hc
  refine ⟨?_, by rw [h1]; rfl, hb.free _⟩
  rw [h1, ← hx, List.getElem?_take, if_pos hj, Array.getElem?_toList, hc]
section
variable (w : World)
end
end Blo
end Go.Proofs.Ytfcfffilfmbpeaa

set_option linter.all false
namespace Go.Proofs.Ytfcfffilfmbpeaa
open Go.RowKit
namespace Blo

/-- Are two volumes unlike at a block? -/
def unl (f g : Int → Nat) (i : Nat) : Bool := decide (f (i : Int) ≠ g (i : Int))
def unlTo (f g : Int → Nat) (j i : Nat) : Bool := decide (i < j) && unl f g i
theorem unlTo_zero (f g : Int → Nat) : unlTo f g 0 = fun _ => false := by funext i; simp [unlTo]
theorem unlTo_succ (f g : Int → Nat) (j : Nat) (b : Bool) (hb : unl f g j = b) : unlTo f g (j + 1) = fun i => if i = j then b else unlTo f g j i := by
  funext i
  unfold unlTo
  by_cases e : i = j
  · rw [if_pos e, e, hb]; simp
  · rw [if_neg e]
    have : decide (i < j + 1) = decide (i < j) := by rw [decide_eq_decide]; omega
    rw [this]
theorem tvs_congr {n : Nat} {a b : Nat → Bool} (h : ∀ i, i < n → a i = b i) : tvs n a = tvs n b := by
  unfold tvs
  exact List.map_congr_left fun i hi => by rw [h i (List.mem_range.1 hi)]
def dfE (a b : List Nat) : Int := if manyB a.length && manyB b.length then (if a.length = b.length then 0 else 1) else 6
def dfM (a b : List Nat) : Nat → Option Nat := tof (unl (fun_ a) (fun_ b)) (fun_ b)
def dfL (a b : List Nat) : List BOp := if manyB a.length && manyB b.length then (if a.length = b.length then shortS (dfM a b) b.length else []) else []
theorem ns_at {w : World} {A : Option Addr} {n : Nat} {v : List Nat} (h : Ns w A n v) {i : Nat} (hi : i < n) : ∃ b o, A = some ⟨b, o, none⟩ ∧ w.cell? ⟨b, o + i, none⟩ = some (.int .u64 ((fun_ v (i : Int) : Nat) : Int)) := by
  obtain ⟨b, o, e, hx, hc, _⟩ := h.at_ hi
  refine ⟨b, o, e, ?_⟩
  rw [hc]
  unfold fun_ List.getD
  rw [Int.toNat_natCast, List.getElem?_eq_getElem hx]
  rfl
section
variable (w : World)
set_option maxRecDepth 100000 in
set_option maxHeartbeats 2000000 in
theorem diff_ (A B : Option Addr) (n m c d : Nat) (a b : List Nat) (ha : Ns w A n a) (hb : Ns w B m b) (hnc : n ≤ c) (hcm : c ≤ 9223372036854775807) (hmd : m ≤ d) (hdm : d ≤ 9223372036854775807) :
    Calls Try.prog 36 #[.slice A n c, .slice B m d] w fun e w' => AnsO w w' e (dfE a b) (dfL a b) := by
  obtain ⟨i0, hi0, hz0, hz1, hz2⟩ := bool_info
  have Hz := Lib.hid hz2
  clear hz2
  have hni : I64 (n : Int) := by unfold I64; omega
  have hmi : I64 (m : Int) := by unfold I64; omega
  have han := ha.len
  have hbm := hb.len
  cases h1 : manyB n with
  | false =>
    have He := Lib.hid (show dfE a b = 6 by unfold dfE; rw [← han, h1]; rfl)
    have Hv := Lib.hid (show dfL a b = [] by unfold dfL; rw [← han, h1]; rfl)
    clear han hbm
    go_enter Try.func36, Try.ntmps36
    go_wp2_with fail
    refine (volume_ _ n hni).mono ?_
    rw [h1]
    rintro e w2 ⟨rfl, rfl⟩
    go_wp2
    go_ret2
    rw [He.out, Hv.out]
    exact ⟨none, 0, 0, [], rfl, Ol.nil _ _, rfl, Below.refl _ _⟩
  | true =>
    cases h2 : manyB m with
    | false =>
      have He := Lib.hid (show dfE a b = 6 by unfold dfE; rw [← han, h1, ← hbm, h2]; rfl)
      have Hv := Lib.hid (show dfL a b = [] by unfold dfL; rw [← han, h1, ← hbm, h2]; rfl)
      clear han hbm
      go_enter Try.func36, Try.ntmps36
      go_wp2_with fail
      refine (volume_ _ n hni).mono ?_
      rw [h1]
      rintro e w2 ⟨rfl, rfl⟩
      go_wp2_with fail
      refine (volume_ _ m hmi).mono ?_
      rw [h2]
      rintro e w2 ⟨rfl, rfl⟩
      go_wp2
      go_ret2
      rw [He.out, Hv.out]
      exact ⟨none, 0, 0, [], rfl, Ol.nil _ _, rfl, Below.refl _ _⟩
    | true =>
      by_cases h3 : n = m
      · have He := Lib.hid (show dfE a b = 0 by unfold dfE; rw [← han, h1, ← hbm, h2, if_pos h3]; rfl)
        have Hv := Lib.hid (show dfL a b = shortS (dfM a b) m by unfold dfL; rw [← han, h1, ← hbm, h2, if_pos h3]; rfl)
        subst h3
        have hN := many_nat h1
        have Hbv := Lib.hid (vol_is hbm)
        have Hbl := Lib.hid (fun_low hb.2)
        clear han hbm h2
        go_enter Try.func36, Try.ntmps36
        go_wp2_with fail
        refine (volume_ _ n hni).mono ?_
        rw [h1]
        rintro e w2 ⟨rfl, rfl⟩
        go_wp2_with fail
        refine (volume_ _ n hni).mono ?_
        rw [h1]
        rintro e w2 ⟨rfl, rfl⟩
        go_wp2_with (first
          | (at_make
             refine wpList_make_blk _ rfl _ _ 32 rfl 4 i0 _ 1 1 Try.underlying32 hi0 hz0 hz1 Hz.out .i64 .i64 _ _ n rfl rfl rfl rfl (by omega) (by omega) ?_
             intro w6 hk6 hb6 hs6)
          | fail)
        have hT : w6.ownsRow w.heap.size 4 1 (.slice (some ⟨w.heap.size, 0, none⟩) n n) n (tvs n (unlTo (fun_ a) (fun_ b) 0)) := own_blk hk6 (Nat.le_refl _) (by unfold maxLen; omega) (by rw [Nat.mul_one, unlTo_zero]; exact (made_list n _).trans (tvs_false n).symm) (tvs_length _ _)
        clear hk6 hs6 h1
        go_loopw [28] (fun iv wr => ∃ j : Nat, j ≤ n ∧ iv = .int .i64 (j : Int) ∧ wr.ownsRow w.heap.size 4 1 (.slice (some ⟨w.heap.size, 0, none⟩) n n) n (tvs n (unlTo (fun_ a) (fun_ b) j)) ∧ Below w.heap.size w wr) (fun iv _ => n - (intOf iv).toNat)
        case atStart => exact ⟨0, Nat.zero_le _, rfl, hT, hb6⟩
        case round =>
          obtain ⟨j, hj, rfl, hTr, hbr⟩ := hrel
          clear hT hb6
          by_cases hlt : j < n
          · have hil : (j : Int) < (n : Int) := by omega
            have hi0' : (0 : Int) ≤ (j : Int) := by omega
            obtain ⟨p, o, rfl, ca⟩ := ns_at (ha.below hbr) hlt
            obtain ⟨q, r, rfl, cb⟩ := ns_at (hb.below hbr) hlt
            obtain ⟨-, hse, hfz⟩ := own_at hTr hlt
            obtain ⟨u, hu⟩ := Option.isSome_iff_exists.1 hse
            have hun : unl (fun_ a) (fun_ b) j = decide (fun_ a (j : Int) ≠ fun_ b (j : Int)) := rfl
            generalize fun_ a (j : Int) = x at *
            generalize fun_ b (j : Int) = y at *
            clear hse
            by_cases hxy : x = y
            · subst hxy
              have HS := Lib.hid (tvs_set (n := n) false (unlTo_succ (fun_ a) (fun_ b) j false (by rw [hun]; simp)))
              have hT7 := own_set1 hTr j (.bool false) hlt
              rw [HS.out] at hT7
              have hB7 : Below w.heap.size w (wr.setCell ⟨w.heap.size, j, none⟩ (.bool false)) := hbr.setCell (Nat.le_refl _) _
              clear hun hTr hbr
              go_wp2_with fail
              go_region
              go_wp2
              go_roundw
              case rel => exact ⟨j + 1, by omega, by go_num, hT7, hB7.drew⟩
              case measure => simp [intOf]; omega
            · have hxy2 : ((x : Int) == (y : Int)) = false := by simp; omega
              have HS := Lib.hid (tvs_set (n := n) true (unlTo_succ (fun_ a) (fun_ b) j true (by rw [hun]; simp [hxy])))
              have hT7 := own_set1 hTr j (.bool true) hlt
              rw [HS.out] at hT7
              have hB7 : Below w.heap.size w (wr.setCell ⟨w.heap.size, j, none⟩ (.bool true)) := hbr.setCell (Nat.le_refl _) _
              have hxy3 : ((x : Int) != (y : Int)) = true := by simp; omega
              clear hun hTr hbr hxy
              go_wp2_with fail
              go_region
              go_wp2
              go_roundw
              case rel => exact ⟨j + 1, by omega, by go_num, hT7, hB7.drew⟩
              case measure => simp [intOf]; omega
          · have hin : (n : Int) ≤ (j : Int) := by omega
            have hje : j = n := by omega
            rw [hje] at hTr
            have hTn : wr.ownsRow w.heap.size 4 1 (.slice (some ⟨w.heap.size, 0, none⟩) n n) n (tvs n (unl (fun_ a) (fun_ b))) := by
              rw [tvs_congr (b := unlTo (fun_ a) (fun_ b) n) fun i hi => by simp [unlTo, hi]]
              exact hTr
            have hbb := hb.below hbr
            rw [Hbv.out] at hbb
            clear hje hTr
            go_wp2_with fail
            refine (shortly_ wr B (some ⟨w.heap.size, 0, none⟩) n d n _ (unl (fun_ a) (fun_ b)) hN hbb Hbl.out (rd_own hTn)).mono ?_
            rintro e w8 ⟨v8, n8, L8, rfl, hO8, hL8, hb8⟩
            obtain ⟨A8, c8, rfl, -, -, -⟩ := own_form hO8.row
            have HL8 := Lib.hid hL8
            clear hL8
            go_wp2
            go_ret2
            rw [He.out, Hv.out]
            exact ⟨A8, n8, c8, L8, rfl, hO8.mono hbr.size, HL8.out, below_step hbr hb8 (Nat.le_refl _)⟩
      · have He := Lib.hid (show dfE a b = 1 by unfold dfE; rw [← han, h1, ← hbm, h2, if_neg h3]; rfl)
        have Hv := Lib.hid (show dfL a b = [] by unfold dfL; rw [← han, h1, ← hbm, h2, if_neg h3]; rfl)
        have h4 : ¬ (n : Int) = (m : Int) := by omega
        clear han hbm h3
        go_enter Try.func36, Try.ntmps36
        go_wp2_with fail
        refine (volume_ _ n hni).mono ?_
        rw [h1]
        rintro e w2 ⟨rfl, rfl⟩
        go_wp2_with fail
        refine (volume_ _ m hmi).mono ?_
        rw [h2]
        rintro e w2 ⟨rfl, rfl⟩
        go_wp2
        go_ret2
        rw [He.out, Hv.out]
        exact ⟨none, 0, 0, [], rfl, Ol.nil _ _, rfl, Below.refl _ _⟩
end
end Blo
end Go.Proofs.Ytfcfffilfmbpeaa
