/- Layer 15: Unpack. -/
import Derived.Test.YtlmaelbalmjlbaaNetB
import Derived.Test.YtlmaelbalmjlbaaNum
set_option linter.all false
namespace Go.Proofs.Ytlmaelbalmjlbaa
open Go.RowKit
namespace Net
open Str (far sealL)
theorem rInt_le {y : List UInt8} {c : Int} {s : RS} (hc : 0 ≤ c) : 0 ≤ ((rInt y c s).1 : Int) ∧ ((rInt y c s).1 : Int) ≤ c := by
  unfold rInt
  split
  · exact ⟨by simp, by simpa using hc⟩
  · split
    · exact ⟨by simp, by simpa using hc⟩
    · split
      · exact ⟨by simp, by simpa using hc⟩
      · exact ⟨by simp, by simp only; omega⟩
theorem rPart_le {y : List UInt8} {s : RS} : (rPart y s).1.length ≤ y.length := by
  unfold rPart
  split
  · simp
  · split
    · simp
    · split
      · simp
      · split
        · simp
        · simp only [List.length_take, List.length_drop]; omega
theorem run_fit {c : Int} (h0 : 0 ≤ c) (h1 : c ≤ 2147483648) (y : List UInt8) : FitS (runM c y) := by
  have b1 := rInt_le (y := y) (c := c) (s := ⟨0, 0, 0⟩) h0
  have b2 := rInt_le (y := y) (c := c) (s := (st1 c y).2) h0
  have b3 := rInt_le (y := y) (c := farI) (s := (st2 c y).2) (by decide)
  have b4 := rInt_le (y := y) (c := farI) (s := (st3 c y).2) (by decide)
  have b5 := rInt_le (y := y) (c := farI) (s := (st4 c y).2) (by decide)
  have b6 := rInt_le (y := y) (c := farI) (s := (st5 c y).2) (by decide)
  exact ⟨by unfold I64 runM; simp only; unfold st1; omega, by unfold I64 runM; simp only; unfold st2; omega, by unfold I64 runM; simp only; unfold st3; simp only [farI] at *; omega, by unfold I64 runM; simp only; unfold st4; simp only [farI] at *; omega, by unfold I64 runM; simp only; unfold st5; simp only [farI] at *; omega, by unfold I64 runM; simp only; unfold st6; simp only [farI] at *; omega⟩
/-- What is answered for bytes. -/
def UnA (w w' : World) (e : Ending) (x : List UInt8) : Prop :=
  ∃ X c, e = .returned (.tuple #[.agg (ma (unV x) (.slice X (unV x).d.length c)), .int .i64 (unE x)]) ∧ w'.ownsRow w.heap.size 5 1 (.slice X (unV x).d.length c) (unV x).d.length (bvs (unV x).d) ∧ Below w.heap.size w w'
theorem unE_of {x : List UInt8} (h : openE x = 0) : openL x = x.take (x.length - 4) ∧ unE x = (if FormM (openL x) then 0 else 5) := by
  unfold openE at h
  unfold openL unE
  split at h
  · rename_i hk
    rw [if_pos hk, if_pos hk]
    exact ⟨rfl, rfl⟩
  · cases h
theorem unE_no {x : List UInt8} (h : ¬ openE x = 0) : openE x = 4 ∧ unE x = 4 ∧ unV x = zM := by
  have h2 : unE x = 4 := by
    unfold openE at h
    unfold unE
    split at h
    · exact absurd rfl h
    · rename_i hk; rw [if_neg hk]
  refine ⟨?_, h2, unV_no (by rw [h2]; decide)⟩
  unfold openE at h ⊢
  split at h
  · exact absurd rfl h
  · rename_i hk; rw [if_neg hk]
theorem unV_run {x : List UInt8} {c : Int} (hc : 15 ≤ c) (h : openE x = 0) (h2 : FormM (openL x)) : unE x = 0 ∧ unV x = runM c (openL x) := by
  obtain ⟨e1, e2⟩ := unE_of h
  have e3 : unE x = 0 := by rw [e2, if_pos h2]
  refine ⟨e3, ?_⟩
  rw [(run_form hc h2).2]
  unfold unV
  rw [if_pos e3, e1]
theorem openL_le (x : List UInt8) : (openL x).length ≤ x.length := by
  unfold openL
  split
  · simp only [List.length_take]; omega
  · simp
abbrev ma0 : Array Value := #[.int .i64 0, .int .i64 0, .int .i64 0, .int .i64 0, .int .i64 0, .int .i64 0, .slice none 0 0]
theorem results_msg {fn : Func} {W : World} {q : Nat} {a b c d e f g : Value} {tmps : Array Value} (hr : fn.results = #[.cell 2 36, .tmp 3]) (h2 : tmps.getD 2 undef = .pointer (some ⟨q, 0, none⟩)) (hb : Blk W q 36 #[a, b, c, d, e, f, g]) :
    (results fn tmps).run Try.prog W = .ok (.tuple #[.agg #[a, b, c, d, e, f, g], tmps.getD 3 undef]) W := by
  have d0 := hb.cell (j := 0) rfl
  have d1 := hb.cell (j := 1) rfl
  have d2 := hb.cell (j := 2) rfl
  have d3 := hb.cell (j := 3) rfl
  have d4 := hb.cell (j := 4) rfl
  have d5 := hb.cell (j := 5) rfl
  have d6 := hb.cell (j := 6) rfl
  have h2' : tmps[2]?.getD undef = .pointer (some ⟨q, 0, none⟩) := by simpa using h2
  simp [results, hr, h2', go_sem, d0, d1, d2, d3, d4, d5, d6]
/-- The world behind the store of a message into block b. -/
abbrev sets (w : World) (b : Nat) (x0 x1 x2 x3 x4 x5 : Int) (v : Value) : World := ((((((w.setCell ⟨b, 0, none⟩ (.int .i64 x0)).setCell ⟨b, 1, none⟩ (.int .i64 x1)).setCell ⟨b, 2, none⟩ (.int .i64 x2)).setCell ⟨b, 3, none⟩ (.int .i64 x3)).setCell ⟨b, 4, none⟩ (.int .i64 x4)).setCell ⟨b, 5, none⟩ (.int .i64 x5)).setCell ⟨b, 6, none⟩ v
theorem ma_set {w : World} {b : Nat} {t : TypeId} {m : Ms} {v : Value} (h : Blk w b t (ma m v)) (x0 x1 x2 x3 x4 x5 : Int) (v' : Value) : Blk (sets w b x0 x1 x2 x3 x4 x5 v') b t #[.int .i64 x0, .int .i64 x1, .int .i64 x2, .int .i64 x3, .int .i64 x4, .int .i64 x5, v'] := by
  have := ((((((h.setCell 0 (.int .i64 x0)).setCell 1 (.int .i64 x1)).setCell 2 (.int .i64 x2)).setCell 3 (.int .i64 x3)).setCell 4 (.int .i64 x4)).setCell 5 (.int .i64 x5)).setCell 6 v'
  simpa using this
theorem sets_grown (w : World) (b : Nat) (x0 x1 x2 x3 x4 x5 : Int) (v : Value) : w.grownBy (sets w b x0 x1 x2 x3 x4 x5 v) (some b) :=
  ((((((grown_setCell w ⟨b, 0, none⟩ _).trans (grown_setCell _ ⟨b, 1, none⟩ _)).trans (grown_setCell _ ⟨b, 2, none⟩ _)).trans (grown_setCell _ ⟨b, 3, none⟩ _)).trans (grown_setCell _ ⟨b, 4, none⟩ _)).trans (grown_setCell _ ⟨b, 5, none⟩ _)).trans (grown_setCell _ ⟨b, 6, none⟩ _)
/-- What the Reader reads, as a message's fields, and its states. -/
structure Run (c : Int) (y : List UInt8) (m : Ms) (s1 s2 s3 s4 s5 s6 s7 : RS) : Prop where
  z1 : Hid (((rInt y c ⟨0, 0, 0⟩).1 : Int) = m.fr)
  e1 : Hid ((rInt y c ⟨0, 0, 0⟩).2 = s1)
  z2 : Hid (((rInt y c s1).1 : Int) = m.to)
  e2 : Hid ((rInt y c s1).2 = s2)
  z3 : Hid (((rInt y 2147483648 s2).1 : Int) = m.k)
  e3 : Hid ((rInt y 2147483648 s2).2 = s3)
  z4 : Hid (((rInt y 2147483648 s3).1 : Int) = m.ep)
  e4 : Hid ((rInt y 2147483648 s3).2 = s4)
  z5 : Hid (((rInt y 2147483648 s4).1 : Int) = m.sq)
  e5 : Hid ((rInt y 2147483648 s4).2 = s5)
  z6 : Hid (((rInt y 2147483648 s5).1 : Int) = m.ac)
  e6 : Hid ((rInt y 2147483648 s5).2 = s6)
  z7 : Hid ((rPart y s6).1 = m.d)
  e7 : Hid ((rPart y s6).2 = s7)
  all : Hid (runM c y = m)
  ends : Hid ((st7 c y).2 = s7)
theorem run_all (c : Int) (y : List UInt8) : ∃ m s1 s2 s3 s4 s5 s6 s7, Run c y m s1 s2 s3 s4 s5 s6 s7 :=
  ⟨runM c y, (st1 c y).2, (st2 c y).2, (st3 c y).2, (st4 c y).2, (st5 c y).2, (st6 c y).2, (st7 c y).2, rfl, rfl, rfl, rfl, rfl, rfl, rfl, rfl, rfl, rfl, rfl, rfl, rfl, rfl, rfl, rfl⟩
section
variable (w : World)
end
/-- The message that was answered, as it lies there. -/
theorem UnA.got {w w' : World} {e : Ending} {x : List UInt8} (h : UnA w w' e x) (hx : x.length ≤ 140737488351300) : ∃ X n c, e = .returned (.tuple #[.agg (ma (unV x) (.slice X n c)), .int .i64 (unE x)]) ∧ Mdt w' (unV x) X n c ∧ w'.ownsRow w.heap.size 5 1 (.slice X n c) n (bvs (unV x).d) ∧ Below w.heap.size w w' := by
  obtain ⟨X, c, rfl, hown, hb⟩ := h
  obtain ⟨X', c', e, h1, h2, h3⟩ := own_form hown
  injection e with e1 e2 e3
  subst e1 e3
  unfold maxLen at h2
  have hf : FitS (unV x) ∧ (unV x).d.length ≤ 140737488351300 := by
    by_cases he : unE x = 0
    · obtain ⟨a, b⟩ := pack_un he
      exact ⟨a.fits, by have := a.2.2.2.2.2.2; omega⟩
    · rw [unV_no he]; exact ⟨zfit, by simp [zM]⟩
  exact ⟨X, _, c, rfl, ⟨bs_own hown, h3, h1, by omega, hf.2, hf.1⟩, hown, hb⟩
end Net
end Go.Proofs.Ytlmaelbalmjlbaa
