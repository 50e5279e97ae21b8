/- Layer 6: the document's Right. -/
import Derived.Test.YtfdfjnepfgabaaaEmpS
set_option linter.all false
namespace Go.Proofs.Ytfdfjnepfgabaaa
open Go.RowKit

section
variable (w : World)
set_option maxRecDepth 100000 in
set_option maxHeartbeats 2000000 in
theorem rright_ (A : Option Addr) (n c : Nat) (l : List Ext) (h : Es w A n l) (hn : n ≤ 9223372036854775807) :
    Calls Try.prog 22 #[.slice A n c] w fun e w' => e = .returned (.bool (rightB l)) ∧ Below w.heap.size w w' := by
  have Hl := Lib.hid h.len
  cases hL : listB l with
  | false =>
    have HR := Lib.hid (show rightB l = false by simp [rightB, hL])
    by_cases hbig : 1024 < n
    · have hbi : (1024 : Int) < (n : Int) := by omega
      go_enter Try.func22, Try.ntmps22
      go_wp2
      go_ret
      rw [HR.out]
      exact ⟨rfl, Below.refl _ _⟩
    · have hbi : (n : Int) ≤ 1024 := by omega
      go_enter Try.func22, Try.ntmps22
      go_wp2_with fail
      refine (rlist_ _ A n c l h hn).mono ?_
      rw [hL]
      rintro e w' ⟨rfl, hb'⟩
      go_wp2
      go_ret
      rw [HR.out]
      exact ⟨rfl, hb'⟩
  | true =>
    have hmay : ∀ x ∈ l, x.may = true := fun x hx => (listFrom_mem (lo := 0) hL x hx).1
    have HA := Lib.hid (show rightB l = aloneB l by simp [rightB, hL])
    have hbi : (n : Int) ≤ 1024 := by have := list_short (lo := 0) hL (by omega); have := Hl.out; omega
    go_enter Try.func22, Try.ntmps22
    go_wp2_with fail
    refine (rlist_ _ A n c l h hn).mono ?_
    rw [hL]
    rintro e w1 ⟨rfl, hb1⟩
    go_wp2_with fail
    go_loopw [3] (fun iv wr => ∃ k : Nat, 1 ≤ k ∧ (k ≤ n ∨ k = 1) ∧ iv = .int .i64 (k : Int) ∧ aloneB (l.drop (k - 1)) = aloneB l ∧ Below w.heap.size w wr) (fun iv _ => n - (intOf iv).toNat)
    case atStart => exact ⟨1, by omega, by omega, rfl, rfl, hb1⟩
    case round =>
      obtain ⟨k, h0, hk, rfl, hL2, hb⟩ := hrel
      by_cases hlt : k < n
      · have hil : (k : Int) < (n : Int) := by omega
        obtain ⟨m, hkm⟩ : ∃ m, k = m + 1 := ⟨k - 1, by omega⟩
        obtain ⟨b, o, rfl, y, hy, fy, c0, c1, c2, c3⟩ := (h.below hb).at_ (k := m) (by omega)
        obtain ⟨b', o', e', x, hx, fx, d0, d1, d2, d3⟩ := (h.below hb).at_ hlt
        injection e' with e'
        injection e' with e1 e2
        subst e1 e2
        have hys := hmay y (List.mem_of_getElem? hy)
        have hdr : l.drop (k - 1) = y :: x :: l.drop (k + 1) := by
          rw [show k - 1 = m by omega, drop_of hy, ← hkm, drop_of hx]
        rw [hdr, alone_step, ← drop_of hx] at hL2
        have hpos : (0 : Int) < (k : Int) := by omega
        have hw1 : IntKind.i64.wrap ((k : Int) - 1) = (m : Int) := by rw [IntKind.wrap_i64]; omega
        have hm0 : (0 : Int) ≤ (m : Int) := by omega
        have hmn : (m : Int) < (n : Int) := by omega
        have hk0 : (0 : Int) ≤ (k : Int) := by omega
        have Hkm := Lib.hid hkm
        clear hkm
        have hnear := near_of hys fx
        clear h
        cases ho : oneB y x with
        | true =>
          have HB := Lib.hid (show aloneB l = false by rw [← hL2, ho]; rfl)
          clear hL2 hdr
          go_wp2_with fail
          go_region_held3 (fun w' => w'.cell? ⟨b, o + m * 4, none⟩ = some (.int .i64 y.off) ∧ w'.cell? ⟨b, o + m * 4 + 1, none⟩ = some (.int .i64 y.len) ∧ w'.cell? ⟨b, o + m * 4 + 2, none⟩ = some (.int .i64 y.phys) ∧ w'.cell? ⟨b, o + m * 4 + 3, none⟩ = some (.int .i64 y.birth) ∧
              w'.cell? ⟨b, o + k * 4, none⟩ = some (.int .i64 x.off) ∧ w'.cell? ⟨b, o + k * 4 + 1, none⟩ = some (.int .i64 x.len) ∧ w'.cell? ⟨b, o + k * 4 + 2, none⟩ = some (.int .i64 x.phys) ∧ w'.cell? ⟨b, o + k * 4 + 3, none⟩ = some (.int .i64 x.birth))
            (first | go_keep | exact ⟨c0, c1, c2, c3, d0, d1, d2, d3⟩ | exact ⟨(hb2.cell (cell_lt c0)).trans c0, (hb2.cell (cell_lt c1)).trans c1, (hb2.cell (cell_lt c2)).trans c2, (hb2.cell (cell_lt c3)).trans c3, (hb2.cell (cell_lt d0)).trans d0, (hb2.cell (cell_lt d1)).trans d1, (hb2.cell (cell_lt d2)).trans d2, (hb2.cell (cell_lt d3)).trans d3⟩)
            (first
              | (go_at_call 40; refine (rone_ _ y x hnear).mono ?_; rw [ho]; rintro e w2 ⟨rfl, hb2⟩))
          go_wp2
          go_ret
          rw [HA.out, HB.out]
          exact ⟨rfl, below_step hb (below_undrew hb2) (Nat.le_refl _)⟩
        | false =>
          have HL := Lib.hid (show aloneB (l.drop (k + 1 - 1)) = aloneB l by rw [← hL2, ho]; simp)
          clear hL2 hdr
          go_wp2_with fail
          go_region_held3 (fun w' => w'.cell? ⟨b, o + m * 4, none⟩ = some (.int .i64 y.off) ∧ w'.cell? ⟨b, o + m * 4 + 1, none⟩ = some (.int .i64 y.len) ∧ w'.cell? ⟨b, o + m * 4 + 2, none⟩ = some (.int .i64 y.phys) ∧ w'.cell? ⟨b, o + m * 4 + 3, none⟩ = some (.int .i64 y.birth) ∧
              w'.cell? ⟨b, o + k * 4, none⟩ = some (.int .i64 x.off) ∧ w'.cell? ⟨b, o + k * 4 + 1, none⟩ = some (.int .i64 x.len) ∧ w'.cell? ⟨b, o + k * 4 + 2, none⟩ = some (.int .i64 x.phys) ∧ w'.cell? ⟨b, o + k * 4 + 3, none⟩ = some (.int .i64 x.birth))
            (first | go_keep | exact ⟨c0, c1, c2, c3, d0, d1, d2, d3⟩ | exact ⟨(hb2.cell (cell_lt c0)).trans c0, (hb2.cell (cell_lt c1)).trans c1, (hb2.cell (cell_lt c2)).trans c2, (hb2.cell (cell_lt c3)).trans c3, (hb2.cell (cell_lt d0)).trans d0, (hb2.cell (cell_lt d1)).trans d1, (hb2.cell (cell_lt d2)).trans d2, (hb2.cell (cell_lt d3)).trans d3⟩)
            (first
              | (go_at_call 40; refine (rone_ _ y x hnear).mono ?_; rw [ho]; rintro e w2 ⟨rfl, hb2⟩))
          go_wp2
          go_roundw
          case rel => exact ⟨k + 1, by omega, by omega, by go_num, HL.out, below_step hb (below_undrew hb2) (Nat.le_refl _)⟩
          case measure => simp [intOf]; omega
      · have hin : (n : Int) ≤ (k : Int) := by omega
        have HB := Lib.hid (hL2.symm.trans (alone_end Hl.out (by omega)))
        clear hL2
        go_wp2
        go_ret
        rw [HA.out, HB.out]
        exact ⟨rfl, hb⟩
end
end Go.Proofs.Ytfdfjnepfgabaaa
