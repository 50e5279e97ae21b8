/- Layer 13: where a block lies: slices.IndexFunc with both functions, piece, Find. Printed by wip/tools/gensmac.py. -/
import Derived.Test.YtncapionioeieaaSmaB
set_option linter.all false
namespace Go.Proofs.Ytncapionioeieaa
open Go.RowKit
namespace Sma

theorem pos_yes {f : Pc → Bool} {k : Nat} {p : Pc} {l : List Pc} {r : Option Nat} (h : pos f k (p :: l) = r) (hp : f p = true) : r = some k := by rw [← h]; simp [pos, hp]
theorem pos_next {f : Pc → Bool} {k : Nat} {p : Pc} {l : List Pc} {r : Option Nat} (h : pos f k (p :: l) = r) (hp : f p = false) : pos f (k + 1) l = r := by rw [← h]; simp [pos, hp]
section
variable (w : World)
set_option maxRecDepth 100000 in
set_option maxHeartbeats 1000000 in
theorem isIn_ (p : Pc) (fp : Fit p) (a : Int) (ha : I64 a) (V : Nat) (hV : w.cell? ⟨V, 0, none⟩ = some (.int .i64 a)) : Calls Try.prog 44 #[.agg #[.int .i64 p.fr, .int .i64 p.en, .int .i64 p.nd], .pointer (some ⟨V, 0, none⟩)] w fun e w' => e = .returned (.bool (inB a p)) ∧ Below w.heap.size w w' := by
  obtain ⟨ff, fe, fn⟩ := fp.all
  unfold I64 at ha
  have hV1 := (World.cell?_alloc_lt w (po p) ⟨V, 0, none⟩ (cell_lt hV)).trans hV
  have hpc := Blk.new w 58 #[.int .i64 p.fr, .int .i64 p.en, .int .i64 p.nd] rfl
  have hb : Below w.heap.size w (w.alloc (po p)) := (Below.refl _ _).alloc (Nat.le_refl _) _
  by_cases h0 : p.fr ≤ a
  · by_cases h1 : a < p.en
    · have H := Lib.hid (in_yes h0 h1)
      go_enter Try.func44, Try.ntmps44
      go_wp2
      go_ret
      rw [H.out]
      exact ⟨rfl, hb⟩
    · have H := Lib.hid (in_no (a := a) (p := p) (.inr (by omega)))
      go_enter Try.func44, Try.ntmps44
      go_wp2
      go_ret
      rw [H.out]
      exact ⟨rfl, hb⟩
  · have H := Lib.hid (in_no (a := a) (p := p) (.inl (by omega)))
    go_enter Try.func44, Try.ntmps44
    go_wp2
    go_ret
    rw [H.out]
    exact ⟨rfl, hb⟩
set_option maxRecDepth 100000 in
set_option maxHeartbeats 1000000 in
theorem isFr_ (p : Pc) (fp : Fit p) (a : Int) (ha : I64 a) (V : Nat) (hV : w.cell? ⟨V, 0, none⟩ = some (.int .i64 a)) : Calls Try.prog 41 #[.agg #[.int .i64 p.fr, .int .i64 p.en, .int .i64 p.nd], .pointer (some ⟨V, 0, none⟩)] w fun e w' => e = .returned (.bool (frB a p)) ∧ Below w.heap.size w w' := by
  obtain ⟨ff, fe, fn⟩ := fp.all
  unfold I64 at ha
  have hV1 := (World.cell?_alloc_lt w (po p) ⟨V, 0, none⟩ (cell_lt hV)).trans hV
  have hpc := Blk.new w 58 #[.int .i64 p.fr, .int .i64 p.en, .int .i64 p.nd] rfl
  have hb : Below w.heap.size w (w.alloc (po p)) := (Below.refl _ _).alloc (Nat.le_refl _) _
  go_enter Try.func41, Try.ntmps41
  go_wp2
  go_ret
  exact ⟨by simp [frB, Bool.beq_eq_decide_eq], hb⟩
set_option maxRecDepth 100000 in
set_option maxHeartbeats 2000000 in
theorem indexIn_ (A : Option Addr) (n c : Nat) (l : List Pc) (h : Ps w A n l) (hn : n ≤ 9223372036854775807) (a : Int) (ha : I64 a) (V : Nat) (hV : w.cell? ⟨V, 0, none⟩ = some (.int .i64 a)) :
    Calls Try.prog 40 #[.slice A n c, .func (.func 44) #[] #[.pointer (some ⟨V, 0, none⟩)]] w fun e w' => e = .returned (.int .i64 (posI (pos (inB a) 0 l))) ∧ Below w.heap.size w w' := by
  have Hl := Lib.hid h.len
  go_enter Try.func40, Try.ntmps40
  go_wp2_with fail
  go_loopw [8] (fun iv wr => ∃ i : Nat, i ≤ n ∧ iv = .int .i64 (i : Int) ∧ pos (inB a) i (l.drop i) = pos (inB a) 0 l ∧ Below w.heap.size w wr) (fun iv _ => n - (intOf iv).toNat)
  case atStart => exact ⟨0, Nat.zero_le _, rfl, rfl, Below.refl _ _⟩
  case round =>
    obtain ⟨i, hi, rfl, hL, hb⟩ := hrel
    by_cases hlt : i < n
    · have hil : (i : Int) < (n : Int) := by omega
      have hi0 : (0 : Int) ≤ (i : Int) := by omega
      obtain ⟨b, o, rfl, p, hx, fp, c0, c1, c2⟩ := (h.below hb).at_ hlt
      obtain ⟨ff, fe, fn⟩ := fp.all
      rw [drop_of hx] at hL
      have hV' := (hb.cell (cell_lt hV)).trans hV
      clear hx h
      cases he : inB a p with
      | true =>
        have HB := Lib.hid (pos_yes hL he)
        clear hL
        go_wp2_with fail
        refine (isIn_ _ p fp a ha V hV').mono ?_
        rw [he]
        rintro e w2 ⟨rfl, hb2⟩
        go_wp2
        go_ret
        rw [HB.out]
        exact ⟨rfl, below_step hb hb2 (by omega)⟩
      | false =>
        have HL := Lib.hid (pos_next hL he)
        clear hL
        go_wp2_with fail
        refine (isIn_ _ p fp a ha V hV').mono ?_
        rw [he]
        rintro e w2 ⟨rfl, hb2⟩
        go_wp2
        go_roundw
        case rel => exact ⟨i + 1, by omega, by go_num, HL.out, below_step hb hb2 (by omega)⟩
        case measure => simp [intOf]; omega
    · have hin : (n : Int) ≤ (i : Int) := by omega
      have HB := Lib.hid (show pos (inB a) 0 l = none by rw [← hL, drop_end Hl.out (by omega)]; rfl)
      clear hL
      go_wp2
      go_ret
      rw [HB.out]
      exact ⟨rfl, hb⟩
set_option maxRecDepth 100000 in
set_option maxHeartbeats 2000000 in
theorem indexFr_ (A : Option Addr) (n c : Nat) (l : List Pc) (h : Ps w A n l) (hn : n ≤ 9223372036854775807) (a : Int) (ha : I64 a) (V : Nat) (hV : w.cell? ⟨V, 0, none⟩ = some (.int .i64 a)) :
    Calls Try.prog 40 #[.slice A n c, .func (.func 41) #[] #[.pointer (some ⟨V, 0, none⟩)]] w fun e w' => e = .returned (.int .i64 (posI (pos (frB a) 0 l))) ∧ Below w.heap.size w w' := by
  have Hl := Lib.hid h.len
  go_enter Try.func40, Try.ntmps40
  go_wp2_with fail
  go_loopw [8] (fun iv wr => ∃ i : Nat, i ≤ n ∧ iv = .int .i64 (i : Int) ∧ pos (frB a) i (l.drop i) = pos (frB a) 0 l ∧ Below w.heap.size w wr) (fun iv _ => n - (intOf iv).toNat)
  case atStart => exact ⟨0, Nat.zero_le _, rfl, rfl, Below.refl _ _⟩
  case round =>
    obtain ⟨i, hi, rfl, hL, hb⟩ := hrel
    by_cases hlt : i < n
    · have hil : (i : Int) < (n : Int) := by omega
      have hi0 : (0 : Int) ≤ (i : Int) := by omega
      obtain ⟨b, o, rfl, p, hx, fp, c0, c1, c2⟩ := (h.below hb).at_ hlt
      obtain ⟨ff, fe, fn⟩ := fp.all
      rw [drop_of hx] at hL
      have hV' := (hb.cell (cell_lt hV)).trans hV
      clear hx h
      cases he : frB a p with
      | true =>
        have HB := Lib.hid (pos_yes hL he)
        clear hL
        go_wp2_with fail
        refine (isFr_ _ p fp a ha V hV').mono ?_
        rw [he]
        rintro e w2 ⟨rfl, hb2⟩
        go_wp2
        go_ret
        rw [HB.out]
        exact ⟨rfl, below_step hb hb2 (by omega)⟩
      | false =>
        have HL := Lib.hid (pos_next hL he)
        clear hL
        go_wp2_with fail
        refine (isFr_ _ p fp a ha V hV').mono ?_
        rw [he]
        rintro e w2 ⟨rfl, hb2⟩
        go_wp2
        go_roundw
        case rel => exact ⟨i + 1, by omega, by go_num, HL.out, below_step hb hb2 (by omega)⟩
        case measure => simp [intOf]; omega
    · have hin : (n : Int) ≤ (i : Int) := by omega
      have HB := Lib.hid (show pos (frB a) 0 l = none by rw [← hL, drop_end Hl.out (by omega)]; rfl)
      clear hL
      go_wp2
      go_ret
      rw [HB.out]
      exact ⟨rfl, hb⟩
set_option maxRecDepth 100000 in
set_option maxHeartbeats 1000000 in
theorem piece_ (m : Mp) (A : Option Addr) (k c : Nat) (h : Mr w m A k c) (a : Int) (ha : I64 a) : Calls Try.prog 37 #[mv m A k c, .int .i64 a] w fun e w' => e = .returned (.int .i64 (posI (pos (inB a) 0 m.ps))) ∧ Below w.heap.size w w' := by
  have hv := h.v
  have hn := h.n
  unfold I64 at hv hn
  have hkc := Nat.le_trans h.le h.cap
  have hbx := ((Below.refl w.heap.size w).alloc (Nat.le_refl _) (.cells #[.int .i64 m.v, .int .i64 m.n, .slice A k c] 26)).alloc (by simp) (.cells #[.int .i64 a] 3)
  have hp := h.ps.below hbx
  have hVb := Blk.new (w.alloc (.cells #[.int .i64 m.v, .int .i64 m.n, .slice A k c] 26)) 3 #[.int .i64 a] (g := w.heap.size + 1) (by simp)
  have hV := hVb.cell (j := 0) (u := .int .i64 a) rfl
  simp only [mv]
  clear h hVb
  go_enter Try.func37, Try.ntmps37
  go_wp2_with fail
  refine (indexIn_ _ A k c m.ps hp hkc a ha _ hV).mono ?_
  rintro e w2 ⟨rfl, hb2⟩
  go_wp2
  go_ret
  exact ⟨rfl, below_step hbx hb2 (by omega)⟩
theorem posI_none : posI none = -1 := rfl
theorem find_posI {m : Mp} {a : Int} (hr : m.right = true) {o : Option Nat} (h : pos (inB a) 0 m.ps = o) : findA m a = findO o := by
  subst h
  unfold findA
  rw [if_neg (by simp [hr])]
set_option maxRecDepth 100000 in
set_option maxHeartbeats 2000000 in
theorem find_ (m : Mp) (A : Option Addr) (k c : Nat) (h : Mr w m A k c) (a : Int) (ha : I64 a) : Calls Try.prog 19 #[mv m A k c, .int .i64 a] w fun e w' => e = .returned (.tuple #[.int .i64 (findA m a).1, .int .i64 (findA m a).2]) ∧ Below w.heap.size w w' := by
  have hbx := (Below.refl w.heap.size w).alloc (Nat.le_refl _) (.cells #[.int .i64 m.v, .int .i64 m.n, .slice A k c] 26)
  have hm1 := h.alloc (.cells #[.int .i64 m.v, .int .i64 m.n, .slice A k c] 26)
  have hbk := Blk.new w 26 #[.int .i64 m.v, .int .i64 m.n, .slice A k c] rfl
  simp only [mv]
  clear h
  cases hr : m.right with
  | false =>
    rw [find_no hr]
    go_enter Try.func19, Try.ntmps19
    go_wp2_with fail
    refine (right_ _ m A k c hm1).mono ?_
    rw [hr]
    rintro e w2 ⟨rfl, hb2⟩
    go_wp2
    go_ret2
    exact ⟨rfl, below_step hbx hb2 (by omega)⟩
  | true =>
    generalize hpo : pos (inB a) 0 m.ps = o
    have Hf := Lib.hid (find_posI hr hpo)
    go_enter Try.func19, Try.ntmps19
    go_wp2_with fail
    refine (right_ _ m A k c hm1).mono ?_
    rw [hr]
    rintro e w2 ⟨rfl, hb2⟩
    have hm2 := hm1.below hb2
    have hbk2 := hbk.keep hb2
    have d0 := hbk2.cell (j := 0) (u := .int .i64 m.v) rfl
    have d1 := hbk2.cell (j := 1) (u := .int .i64 m.n) rfl
    have d2 := hbk2.cell (j := 2) (u := .slice A k c) rfl
    clear hm1 hbk hbk2
    go_wp2_with fail
    refine (piece_ _ m A k c hm2 a ha).mono ?_
    rw [hpo]
    rintro e w3 ⟨rfl, hb3⟩
    clear hpo d0 d1 d2 hm2
    have hB := below_step (below_step hbx hb2 (by omega)) hb3 (by omega)
    cases o with
    | none =>
      simp only [posI]
      go_wp2
      go_ret2
      rw [Hf.out]
      exact ⟨rfl, hB⟩
    | some i =>
      simp only [posI]
      have hi0 : ¬ (i : Int) < 0 := by omega
      go_wp2
      go_ret2
      rw [Hf.out]
      exact ⟨rfl, hB⟩
end
end Sma
end Go.Proofs.Ytncapionioeieaa
