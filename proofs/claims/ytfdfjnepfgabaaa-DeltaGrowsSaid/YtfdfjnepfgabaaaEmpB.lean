/- Layer 6: which lists are lists, and which are in their form: emap's list and Right. -/
import Derived.Test.YtfdfjnepfgabaaaEmpA
import Derived.Deep.RegionHeld3
set_option linter.all false
namespace Go.Proofs.Ytfdfjnepfgabaaa
open Go.RowKit

theorem drop_of {α : Type} {l : List α} {k : Nat} {x : α} (h : l[k]? = some x) : l.drop k = x :: l.drop (k + 1) := by
  obtain ⟨hk, rfl⟩ := List.getElem?_eq_some_iff.1 h
  exact List.drop_eq_getElem_cons hk
theorem list_nomay {lo : Int} {x : Ext} {r : List Ext} {b : Bool} (h : listFrom lo (x :: r) = b) (hx : x.may = false) : b = false := by
  rw [← h]; simp [listFrom, hx]
theorem list_noend {lo : Int} {x : Ext} {r : List Ext} {b : Bool} (h : listFrom lo (x :: r) = b) (hx : x.off < lo) : b = false := by
  rw [← h]; simp [listFrom]; intro _ h2; omega
theorem list_next {lo : Int} {x : Ext} {r : List Ext} {b : Bool} (h : listFrom lo (x :: r) = b) (hx : x.may = true) (hl : ¬ x.off < lo) : listFrom (x.off + x.len) r = b := by
  rw [← h]
  have : lo ≤ x.off := by omega
  simp [listFrom, hx, this]
theorem list_done {α : Type} {l : List α} {k n : Nat} (hn : n = l.length) (h : n ≤ k) : l.drop k = [] := List.drop_of_length_le (by omega)

theorem list_short : ∀ {l : List Ext} {lo : Int}, listFrom lo l = true → lo ≤ 1024 → lo + (l.length : Int) ≤ 1024
  | [], lo, _, h => by simpa using h
  | x :: l, lo, h, hl => by
    rw [listFrom_cons] at h
    have := may_len h.1
    have := list_short h.2.2 (by omega)
    simp only [List.length_cons]
    omega
section
variable (w : World)
set_option maxRecDepth 100000 in
set_option maxHeartbeats 1000000 in
theorem list_ (A : Option Addr) (n c : Nat) (l : List Ext) (h : Es w A n l) (hn : n ≤ 9223372036854775807) :
    Calls Try.prog 45 #[.slice A n c] w fun e w' => e = .returned (.bool (listB l)) ∧ Below w.heap.size w w' := by
  have Hl := Lib.hid h.len
  go_enter Try.func45, Try.ntmps45
  go_wp2_with fail
  go_loopw [3, 8] (fun ev iv wr => ∃ (k : Nat) (lo : Int), k ≤ n ∧ iv = .int .i64 (k : Int) ∧ ev = .int .i64 lo ∧ 0 ≤ lo ∧ lo ≤ 1024 ∧ listFrom lo (l.drop k) = listB l ∧ Below w.heap.size w wr) (fun _ iv _ => n - (intOf iv).toNat)
  case atStart => exact ⟨0, 0, Nat.zero_le _, rfl, rfl, by omega, by omega, rfl, Below.refl _ _⟩
  case round =>
    obtain ⟨k, lo, hk, rfl, rfl, hl0, hl1, hL, hb⟩ := hrel
    by_cases hlt : k < n
    · have hil : (k : Int) < (n : Int) := by omega
      obtain ⟨b, o, rfl, x, hx, fx, c0, c1, c2, c3⟩ := (h.below hb).at_ hlt
      obtain ⟨fo, fl, fp, fb⟩ := fx.all
      rw [drop_of hx] at hL
      have hac := Blk.new wr 57 #[.int .i64 x.off, .int .i64 x.len, .int .i64 x.phys, .int .i64 x.birth] rfl
      have hba : Below w.heap.size w (wr.alloc (.cells #[.int .i64 x.off, .int .i64 x.len, .int .i64 x.phys, .int .i64 x.birth] 57)) := hb.alloc hb.size _
      clear h hb
      cases hm : x.may with
      | false =>
        have HB := Lib.hid (list_nomay hL hm)
        clear hL
        go_wp2_with fail
        refine (may_ _ x fx).mono ?_
        rw [hm]
        rintro e w' ⟨rfl, hb'⟩
        go_wp2
        go_ret
        rw [HB.out]
        exact ⟨rfl, below_step hba hb' (by omega)⟩
      | true =>
        have hml := may_len hm
        by_cases he : x.off < lo
        · have HB := Lib.hid (list_noend hL he)
          clear hL
          go_wp2_with fail
          refine (may_ _ x fx).mono ?_
          rw [hm]
          rintro e w' ⟨rfl, hb'⟩
          have d0 := (hac.keep hb').cell (j := 0) (u := .int .i64 x.off) rfl
          go_wp2
          go_ret
          rw [HB.out]
          exact ⟨rfl, below_step hba hb' (by omega)⟩
        · have HL := Lib.hid (list_next hL hm he)
          clear hL
          go_wp2_with fail
          refine (may_ _ x fx).mono ?_
          rw [hm]
          rintro e w' ⟨rfl, hb'⟩
          have d0 := (hac.keep hb').cell (j := 0) (u := .int .i64 x.off) rfl
          have d1 := (hac.keep hb').cell (j := 1) (u := .int .i64 x.len) rfl
          go_wp2
          go_roundw
          case rel => exact ⟨k + 1, x.off + x.len, by omega, by go_num, rfl, by omega, by omega, HL.out, below_step hba hb' (by omega)⟩
          case measure => simp [intOf]; omega
    · have hin : (n : Int) ≤ (k : Int) := by omega
      have hd : l.drop k = [] := list_done Hl.out (by omega)
      rw [hd] at hL
      have HB := Lib.hid hL
      clear hL hd
      go_wp2
      go_ret
      rw [← HB.out]
      exact ⟨rfl, hb⟩

theorem below_undrew {B : Nat} {a w : World} (h : Below B a.drew w) : Below B a w := ⟨h.os, h.tape, h.output, h.size, h.block⟩
theorem alone_end {l : List Ext} {k n : Nat} (hn : n = l.length) (h : n ≤ k) : aloneB (l.drop (k - 1)) = true := by
  rcases Nat.eq_zero_or_pos k with h0 | h0
  · subst h0
    have : l = [] := List.eq_nil_of_length_eq_zero (by omega)
    subst this; rfl
  · cases hd : l.drop (k - 1) with
    | nil => rfl
    | cons x r =>
      have hl : (l.drop (k - 1)).length = l.length - (k - 1) := List.length_drop
      rw [hd, List.length_cons] at hl
      have : r = [] := List.eq_nil_of_length_eq_zero (by omega)
      subst this; rfl
theorem alone_step {y x : Ext} {r : List Ext} : aloneB (y :: x :: r) = (!oneB y x && aloneB (x :: r)) := rfl
set_option maxRecDepth 100000 in
set_option maxHeartbeats 2000000 in
theorem right_ (A : Option Addr) (n c : Nat) (l : List Ext) (h : Es w A n l) (hn : n ≤ 9223372036854775807) :
    Calls Try.prog 25 #[.slice A n c] w fun e w' => e = .returned (.bool (rightB l)) ∧ Below w.heap.size w w' := by
  have Hl := Lib.hid h.len
  cases hL : listB l with
  | false =>
    have HR := Lib.hid (show rightB l = false by simp [rightB, hL])
    go_enter Try.func25, Try.ntmps25
    go_wp2_with fail
    refine (list_ _ A n c l h hn).mono ?_
    rw [hL]
    rintro e w' ⟨rfl, hb'⟩
    go_wp2
    go_ret
    rw [HR.out]
    exact ⟨rfl, hb'⟩
  | true =>
    have hmay : ∀ x ∈ l, x.may = true := fun x hx => (listFrom_mem (lo := 0) hL x hx).1
    have HA := Lib.hid (show rightB l = aloneB l by simp [rightB, hL])
    go_enter Try.func25, Try.ntmps25
    go_wp2_with fail
    refine (list_ _ A n c l h hn).mono ?_
    rw [hL]
    rintro e w1 ⟨rfl, hb1⟩
    go_wp2_with fail
    go_loopw [9] (fun iv wr => ∃ k : Nat, k ≤ n ∧ iv = .int .i64 (k : Int) ∧ aloneB (l.drop (k - 1)) = aloneB l ∧ Below w.heap.size w wr) (fun iv _ => n - (intOf iv).toNat)
    case atStart => exact ⟨0, Nat.zero_le _, rfl, rfl, hb1⟩
    case round =>
      obtain ⟨k, hk, rfl, hL2, hb⟩ := hrel
      by_cases hlt : k < n
      · have hil : (k : Int) < (n : Int) := by omega
        rcases Nat.eq_zero_or_pos k with h0 | h0
        · subst h0
          have HL := Lib.hid hL2
          clear hL2
          have hg : decide ((0 : Int) < ((0 : Nat) : Int)) = false := by decide
          go_wp2_with fail
          go_quiet (fail)
          go_wp2
          go_roundw
          case rel => exact ⟨1, by omega, by go_num, HL.out, below_drewN hb _⟩
          case measure => simp [intOf]; omega
        · obtain ⟨m, hkm⟩ : ∃ m, k = m + 1 := ⟨k - 1, by omega⟩
          obtain ⟨b, o, rfl, y, hy, fy, c0, c1, c2, c3⟩ := (h.below hb).at_ (k := m) (by omega)
          obtain ⟨b', o', e', x, hx, fx, d0, d1, d2, d3⟩ := (h.below hb).at_ hlt
          injection e' with e'
          injection e' with e1 e2
          subst e1 e2
          have hys := hmay y (List.mem_of_getElem? hy)
          have hdr : l.drop (k - 1) = y :: x :: l.drop (k + 1) := by
            rw [show k - 1 = m by omega, drop_of hy, ← hkm, drop_of hx]
          rw [hdr, alone_step, ← drop_of hx] at hL2
          have hpos : (0 : Int) < (k : Int) := by omega
          have hw1 : IntKind.i64.wrap ((k : Int) - 1) = (m : Int) := by rw [IntKind.wrap_i64]; omega
          have hm0 : (0 : Int) ≤ (m : Int) := by omega
          have hmn : (m : Int) < (n : Int) := by omega
          have hk0 : (0 : Int) ≤ (k : Int) := by omega
          have Hkm := Lib.hid hkm
          clear hkm
          have hnear := near_of hys fx
          clear h
          cases ho : oneB y x with
          | true =>
            have HB := Lib.hid (show aloneB l = false by rw [← hL2, ho]; rfl)
            clear hL2 hdr
            go_wp2_with fail
            go_region_held3 (fun w' => w'.cell? ⟨b, o + m * 4, none⟩ = some (.int .i64 y.off) ∧ w'.cell? ⟨b, o + m * 4 + 1, none⟩ = some (.int .i64 y.len) ∧ w'.cell? ⟨b, o + m * 4 + 2, none⟩ = some (.int .i64 y.phys) ∧ w'.cell? ⟨b, o + m * 4 + 3, none⟩ = some (.int .i64 y.birth) ∧
                w'.cell? ⟨b, o + k * 4, none⟩ = some (.int .i64 x.off) ∧ w'.cell? ⟨b, o + k * 4 + 1, none⟩ = some (.int .i64 x.len) ∧ w'.cell? ⟨b, o + k * 4 + 2, none⟩ = some (.int .i64 x.phys) ∧ w'.cell? ⟨b, o + k * 4 + 3, none⟩ = some (.int .i64 x.birth))
              (first | go_keep | exact ⟨c0, c1, c2, c3, d0, d1, d2, d3⟩ | exact ⟨(hb2.cell (cell_lt c0)).trans c0, (hb2.cell (cell_lt c1)).trans c1, (hb2.cell (cell_lt c2)).trans c2, (hb2.cell (cell_lt c3)).trans c3, (hb2.cell (cell_lt d0)).trans d0, (hb2.cell (cell_lt d1)).trans d1, (hb2.cell (cell_lt d2)).trans d2, (hb2.cell (cell_lt d3)).trans d3⟩)
              (first
                | (go_at_call 46; refine (one_ _ y x hnear).mono ?_; rw [ho]; rintro e w2 ⟨rfl, hb2⟩))
            go_wp2
            go_ret
            rw [HA.out, HB.out]
            exact ⟨rfl, below_step hb (below_undrew hb2) (Nat.le_refl _)⟩
          | false =>
            have HL := Lib.hid (show aloneB (l.drop (k + 1 - 1)) = aloneB l by rw [← hL2, ho]; simp)
            clear hL2 hdr
            go_wp2_with fail
            go_region_held3 (fun w' => w'.cell? ⟨b, o + m * 4, none⟩ = some (.int .i64 y.off) ∧ w'.cell? ⟨b, o + m * 4 + 1, none⟩ = some (.int .i64 y.len) ∧ w'.cell? ⟨b, o + m * 4 + 2, none⟩ = some (.int .i64 y.phys) ∧ w'.cell? ⟨b, o + m * 4 + 3, none⟩ = some (.int .i64 y.birth) ∧
                w'.cell? ⟨b, o + k * 4, none⟩ = some (.int .i64 x.off) ∧ w'.cell? ⟨b, o + k * 4 + 1, none⟩ = some (.int .i64 x.len) ∧ w'.cell? ⟨b, o + k * 4 + 2, none⟩ = some (.int .i64 x.phys) ∧ w'.cell? ⟨b, o + k * 4 + 3, none⟩ = some (.int .i64 x.birth))
              (first | go_keep | exact ⟨c0, c1, c2, c3, d0, d1, d2, d3⟩ | exact ⟨(hb2.cell (cell_lt c0)).trans c0, (hb2.cell (cell_lt c1)).trans c1, (hb2.cell (cell_lt c2)).trans c2, (hb2.cell (cell_lt c3)).trans c3, (hb2.cell (cell_lt d0)).trans d0, (hb2.cell (cell_lt d1)).trans d1, (hb2.cell (cell_lt d2)).trans d2, (hb2.cell (cell_lt d3)).trans d3⟩)
              (first
                | (go_at_call 46; refine (one_ _ y x hnear).mono ?_; rw [ho]; rintro e w2 ⟨rfl, hb2⟩))
            go_wp2
            go_roundw
            case rel => exact ⟨k + 1, by omega, by go_num, HL.out, below_step hb (below_undrew hb2) (Nat.le_refl _)⟩
            case measure => simp [intOf]; omega
      · have hin : (n : Int) ≤ (k : Int) := by omega
        have HB := Lib.hid (hL2.symm.trans (alone_end Hl.out (by omega)))
        clear hL2
        go_wp2
        go_ret
        rw [HA.out, HB.out]
        exact ⟨rfl, hb⟩
end
end Go.Proofs.Ytfdfjnepfgabaaa
