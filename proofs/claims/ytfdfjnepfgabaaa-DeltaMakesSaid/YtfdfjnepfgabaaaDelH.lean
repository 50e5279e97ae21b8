/- Layer 9: what young answers, as what is ranged over. -/
import Derived.Test.YtfdfjnepfgabaaaDelG
set_option linter.all false
namespace Go.Proofs.Ytfdfjnepfgabaaa
open Go.RowKit Go.Shelf
attribute [local go_sem] Oper.semAt_some

/-- The young ones of the first n blocks, rising. -/
def yl (y : Nat → Bool) (n : Nat) : List Nat := (List.range n).filter y
theorem yl_no {y : Nat → Bool} {n : Nat} (h : y n = false) : yl y (n + 1) = yl y n := by simp [yl, List.range_succ, h]
theorem yl_yes {y : Nat → Bool} {n : Nat} (h : y n = true) : yl y (n + 1) = yl y n ++ [n] := by simp [yl, List.range_succ, h]
theorem yl_len (y : Nat → Bool) (n : Nat) : (yl y n).length ≤ n := by
  have := List.length_filter_le y (List.range n)
  simpa [yl] using this
theorem yl_mono (y : Nat → Bool) (n : Nat) : ∀ k, (yl y n).length ≤ (yl y (n + k)).length
  | 0 => Nat.le_refl _
  | k + 1 => by
    have := yl_mono y n k
    rw [show n + (k + 1) = (n + k) + 1 by omega]
    cases h : y (n + k) with
    | false => rw [yl_no h]; exact this
    | true => rw [yl_yes h, List.length_append]; omega
theorem yl_lt {y : Nat → Bool} {i n : Nat} (h : y i = true) (hi : i < n) : (yl y i).length < (yl y n).length := by
  have := yl_mono y (i + 1) (n - (i + 1))
  rw [show i + 1 + (n - (i + 1)) = n by omega, yl_yes h, List.length_append] at this
  simp only [List.length_singleton] at this
  omega
abbrev Ix := { z : Nat // z < 1024 }
abbrev ixV (z : Ix) : Array Value := #[.int .i64 (z.1 : Int)]
abbrev ixs (xs : List Ix) : List Nat := xs.map Subtype.val
theorem ixs_snoc (xs : List Ix) (z : Ix) : ixs (xs ++ [z]) = ixs xs ++ [z.1] := by simp [ixs]
theorem size_ya : (Try.prog.info? 97).map (·.size) = some 1024 := by kernel_rfl
theorem ya_index (w : World) (y : Nat → Bool) (i : Nat) (hi : i < 1024) : (Instr.index 97 (.agg (tva 1024 y)) (.int .i64 (i : Int))).run Try.prog w = .ok (.bool (y i)) w := by
  obtain ⟨j, hj, hs⟩ := Option.map_eq_some_iff.1 (show (Try.prog.info? 4).map (·.size) = some 1 by kernel_rfl)
  have h1 : (0 : Int) ≤ (i : Int) ∧ (i : Int) < 1024 := by omega
  have h2 := tva_at y hi
  have h3 : i < (tva 1024 y).size := by rw [tva_size]; exact hi
  simp [Instr.index, run_underlying Try.underlying97, go_sem, h1, h2, sizeOf, typeInfo, hj, hs, run_underlying Try.underlying4]
  intro h; omega
set_option maxRecDepth 100000 in
set_option maxHeartbeats 2000000 in
theorem young1_ (m l0 g : Nat) (y : Nat → Bool) (J Jx : List Ix → World → Prop) (W : World)
    (hY : ∀ pre x W1, J pre W1 → pre.length < (yl y 1024).length → YieldAt Fence.wide (m - 1) Try.prog l0 (ixV x) W1 fun e W' =>
      (e = .returned (.bool true) ∧ J (pre ++ [x]) W' ∧ True) ∨ (e = .returned (.bool false) ∧ Jx (pre ++ [x]) W'))
    (hg : Blk W g 97 (tva 1024 y)) (h0 : J [] W) :
    CallsIn Fence.wide m Try.prog 48 #[.func (.yield l0) #[] #[], .pointer (some ⟨g, 0, none⟩)] W fun e W' => (∃ v, e = .returned v) ∧
      ((∃ ys, ixs ys = yl y 1024 ∧ J ys W') ∨ (∃ pre, True ∧ Jx pre W')) := by
  refine callsIn_of_wp Try.func48 rfl trivial ?_ rfl
  simp only [Try.ntmps48, List.size_toArray, List.length_cons, List.length_nil, Nat.reduceAdd, Nat.reduceSub, Array.replicate_succ, Array.replicate_zero, List.push_toArray, List.append_toArray, List.nil_append, List.cons_append]
  gi_wp2_with (first
    | (refine wpListIn_load_mid rfl 97 _ rfl g 0 rfl (tva 1024 y).toList _ (hg.range (fun j v hv => by rw [Nat.zero_add]; simpa using hv)) Try.underlying97 rfl (by rw [size_ya, Array.length_toList, tva_size]) ?_
       rw [Array.toArray_toList]))
  gi_loopw [6] (fun iv wr => ∃ (i : Nat) (pre : List Ix), i ≤ 1024 ∧ iv = .int .i64 (i : Int) ∧ ixs pre = yl y i ∧ J pre wr) (fun iv _ => 1024 - (intOf iv).toNat)
  case atStart => exact ⟨0, [], Nat.zero_le _, rfl, rfl, h0⟩
  case round =>
    obtain ⟨i, pre, hi, rfl, hpre, hJ⟩ := hrel
    have Hp := Lib.hid hpre
    clear hpre
    by_cases hlt : i < 1024
    · have hiI : (i : Int) < 1024 := by omega
      have hi0 : (0 : Int) ≤ (i : Int) := by omega
      have hix := fun W => ya_index W y i hlt
      cases hs : y i with
      | false =>
        rw [hs] at hix
        gi_wp2
        refine ⟨fun _ h => (by cases h), ?_⟩
        gi_wp2
        go_roundw
        case rel => exact ⟨i + 1, pre, by omega, by go_num, by rw [Hp.out, yl_no hs], hJ⟩
        case measure => simp [intOf]; omega
      | true =>
        rw [hs] at hix
        obtain ⟨fn, tmps, assign, body, hy, hR⟩ := hY pre ⟨i, hlt⟩ _ hJ (by
          have h1 := yl_lt hs hlt
          rw [← Hp.out, List.length_map] at h1
          exact h1)
        dsimp only [ixV] at hy
        gi_wp2
        refine ⟨(fun h => by cases h), hR.mono ?_⟩
        rintro e W3 (⟨rfl, hJ3, -⟩ | ⟨rfl, hJx3⟩)
        · gi_wp2
          go_roundw
          case rel => exact ⟨i + 1, pre ++ [⟨i, hlt⟩], by omega, by go_num, by rw [ixs_snoc, Hp.out, yl_yes hs], hJ3⟩
          case measure => simp [intOf]; omega
        · gi_wp2
          refine bodyPost_ret (results_none rfl _ _ _) rfl ?_
          exact ⟨⟨_, rfl⟩, .inr ⟨_, trivial, hJx3⟩⟩
    · have hii : (1024 : Int) ≤ (i : Int) := by omega
      have he : i = 1024 := by omega
      subst he
      gi_wp2
      go_end0
      exact ⟨⟨_, rfl⟩, .inl ⟨pre, Hp.out, hJ⟩⟩
/-- **What young answers, as what is ranged over.** -/
theorem young_stops (m g : Nat) (y : Nat → Bool) (w : World) (hg : Blk w g 97 (tva 1024 y)) :
    SeqStopsK Fence.wide m Try.prog 48 #[.pointer (some ⟨g, 0, none⟩)] ixV (fun _ _ => True) (fun xs => ixs xs = yl y 1024) (fun _ => True) (yl y 1024).length w := fun l0 J Jx W hW _ _ hY h0 =>
  young1_ m l0 g y J Jx W hY (hg.keep hW) h0
end Go.Proofs.Ytfdfjnepfgabaaa
