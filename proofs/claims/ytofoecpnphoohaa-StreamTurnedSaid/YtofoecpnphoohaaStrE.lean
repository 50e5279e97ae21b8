/- Layer 10: Encode. -/
import Derived.Test.YtofoecpnphoohaaStrD
set_option linter.all false
namespace Go.Proofs.Ytofoecpnphoohaa
open Go.RowKit
namespace Str
open Blo (I64)
def encE (l : List Rec) : Int := if l.all mayB = true then (if (encL l).length ≤ 65536 then 0 else 6) else 1
def encV (l : List Rec) : List UInt8 := if encE l = 0 then encL l else []
theorem encE_zero {l : List Rec} (h : encE l = 0) : l.all mayB = true ∧ (encL l).length ≤ 65536 := by
  unfold encE at h
  split at h
  · split at h
    · exact ⟨‹_›, ‹_›⟩
    · cases h
  · cases h
theorem encE_cases (l : List Rec) : encE l = 0 ∨ encE l = 6 ∨ encE l = 1 := by
  unfold encE
  split
  · split
    · exact .inl rfl
    · exact .inr (.inl rfl)
  · exact .inr (.inr rfl)
theorem encL_snoc {l : List Rec} {k : Nat} {x : Rec} (h : l[k]? = some x) : encL (l.take (k + 1)) = encL (l.take k) ++ recB x := by
  rw [take_snoc h, encL_append, encL_one]
theorem encL_take_le (l : List Rec) (k : Nat) : (encL (l.take k)).length ≤ (encL l).length := by
  have : encL l = encL (l.take k) ++ encL (l.drop k) := by rw [← encL_append, List.take_append_drop]
  rw [this, List.length_append]; omega
section
variable (w : World)
set_option maxRecDepth 100000 in
set_option maxHeartbeats 2000000 in
theorem enc_ (A : Option Addr) (n c : Nat) (l : List Rec) (h : Rcl w A n l) (hn : n ≤ 9223372036854775807) :
    Calls Try.prog 7 #[.slice A n c] w fun e w' => ∃ v, e = .returned (.tuple #[v, .int .i64 (encE l)]) ∧ w'.ownsRow w.heap.size 5 1 v (encV l).length (bvs (encV l)) ∧ Below w.heap.size w w' := by
  obtain ⟨i0, hi0, hz0, hz1, hz2⟩ := info_parts info_u8
  have Hz := Lib.hid hz2
  have Hl := Lib.hid h.len
  clear hz2
  go_enter Try.func7, Try.ntmps7
  go_wp2_with fail
  refine (may_ _ A n c l h hn).mono ?_
  cases hm : l.all mayB with
  | false =>
    have HE := Lib.hid (show encE l = 1 by unfold encE; rw [hm]; rfl)
    have HV := Lib.hid (show encV l = [] by unfold encV; rw [HE.out]; rfl)
    clear hm
    rintro e w1 ⟨rfl, hb1⟩
    go_wp2
    go_ret2
    rw [HE.out, HV.out]
    exact ⟨_, rfl, own_nil _ _ _ _, hb1⟩
  | true =>
    have Hm := Lib.hid hm
    rintro e w1 ⟨rfl, hb1⟩
    have hs1 := hb1.size
    have h1 := h.below hb1
    clear h hm
    go_wp2_with fail
    go_loopw [4, 12] (fun vv iv wr => ∃ (i k : Nat), i ≤ n ∧ iv = .int .i64 (i : Int) ∧ k ≤ 65536 ∧ Hid (k = (encL (l.take i)).length) ∧ wr.ownsRow w1.heap.size 5 1 vv k (bvs (encL (l.take i))) ∧ Below w1.heap.size w1 wr) (fun _ iv _ => n - (intOf iv).toNat)
    case atStart => exact ⟨0, 0, Nat.zero_le _, rfl, Nat.zero_le _, Lib.hid (by simp [encL]), by simpa [encL, bvs] using own_nil w1 w1.heap.size 5 1, Below.refl _ _⟩
    case round =>
      obtain ⟨i, k, hi, rfl, hk, Hk, hown, hb⟩ := hrel
      by_cases hlt : i < n
      · have hil : (i : Int) < (n : Int) := by omega
        have hi0' : (0 : Int) ≤ (i : Int) := by omega
        obtain ⟨b, o, X, m, cc, x, rfl, hx, hc, hd⟩ := (h1.below hb).at_ hlt
        obtain ⟨c0, c1, c2, c3, c4, c5, c6, c7⟩ := hc.all
        have hmx : MayR x := by
          have := List.all_eq_true.1 Hm.out x (List.mem_of_getElem? hx)
          exact of_decide_eq_true this
        have HX := Lib.hid (encL_snoc hx)
        have hxl : (recB x).length ≤ 600 := by rw [recB_length]; have := hmx.1.data; omega
        have hba : Below wr.heap.size wr (wr.alloc (.cells (ra x (.slice X m cc)) 39)) := (Below.refl _ _).alloc (Nat.le_refl _) _
        have hd1 := hd.below hba
        clear hc hd hx
        go_wp2_with fail
        refine (encode_ _ x X m cc hd1 hmx).mono ?_
        rintro e w2 ⟨v2, rfl, hown2, hb2⟩
        obtain ⟨A2, c2', rfl, hc2', hm2', ha2⟩ := own_form hown2
        unfold maxLen at hm2'
        have hb12 : Below wr.heap.size wr w2 := below_step hba hb2 (Nat.le_refl _)
        have hB2 : Below w1.heap.size w1 w2 := below_step hb hb12 (Nat.le_refl _)
        have hownk := own_keep hown hb12
        have hbs := bs_own hown2
        have hsz := hB2.size
        obtain ⟨z, hz⟩ : ∃ z, (recB x).length = z := ⟨_, rfl⟩
        rw [hz] at hxl hbs ha2 hc2' ⊢
        have HZ := Lib.hid hz
        have ha2' : A2 = none → z = 0 := fun q => (ha2 q).1
        clear hz hown hown2 c0 c1 c2 c3 c4 c5 c6 c7 hba hb2 hd1 hb12 ha2
        have HK := Lib.hid (show k + z = (encL (l.take (i + 1))).length by rw [HX.out, List.length_append, Hk.out, HZ.out])
        by_cases hbig : k + z ≤ 65536
        · have hb65 : (k : Int) + (z : Int) ≤ 65536 := by omega
          go_wp2_with (first
            | (at_builtin
               refine wpList_app _ rfl (.tmp 16) (.tmp 18) _ rfl w1.heap.size 5 i0 (.int .u8 0) 1 1 Try.underlying23 hi0 hz0 hz1 Hz.out rfl Nat.one_pos _ k _ rfl hownk A2 z c2' (bvs (recB x)) rfl ha2' hbs (bvs_one _) (by unfold maxLen; omega) (by omega) (by omega) ?_
               intro v3 w3 hown3 hg3 hat3
               have hB3 : Below w1.heap.size w1 w3 := hB2.grown hg3 hB2.size (fun k hk => (hownk.lt k hk).1)
               rw [← bvs_append, ← HX.out] at hown3
               obtain ⟨A3, c3, rfl, hc3, hm3, ha3⟩ := own_form hown3
               clear hg3 hat3 hownk ha3))
          go_roundw
          case rel => exact ⟨i + 1, k + z, by omega, by go_num, hbig, HK, hown3, hB3⟩
          case measure => simp [intOf]; omega
        · have HE := Lib.hid (show encE l = 6 by
            unfold encE
            rw [Hm.out, if_pos rfl, if_neg (by have := encL_take_le l (i + 1); have := HK.out; omega)])
          have HV := Lib.hid (show encV l = [] by unfold encV; rw [HE.out]; rfl)
          have hb65 : (65536 : Int) < (k : Int) + (z : Int) := by omega
          go_wp2_with (first
            | (at_builtin
               refine wpList_app _ rfl (.tmp 16) (.tmp 18) _ rfl w1.heap.size 5 i0 (.int .u8 0) 1 1 Try.underlying23 hi0 hz0 hz1 Hz.out rfl Nat.one_pos _ k _ rfl hownk A2 z c2' (bvs (recB x)) rfl ha2' hbs (bvs_one _) (by unfold maxLen; omega) (by omega) (by omega) ?_
               intro v3 w3 hown3 hg3 hat3
               have hB3 : Below w1.heap.size w1 w3 := hB2.grown hg3 hB2.size (fun k hk => (hownk.lt k hk).1)
               rw [← bvs_append, ← HX.out] at hown3
               obtain ⟨A3, c3, rfl, hc3, hm3, ha3⟩ := own_form hown3
               clear hg3 hat3 hownk ha3))
          go_ret2
          rw [HE.out, HV.out]
          exact ⟨_, rfl, own_nil _ _ _ _, below_step hb1 hB3 (Nat.le_refl _)⟩
      · have hin : i = n := by omega
        subst hin
        have hL := Lib.hid (List.take_of_length_le (l := l) (i := i) (by have := Hl.out; omega))
        rw [hL.out] at hown Hk
        have HE := Lib.hid (show encE l = 0 by unfold encE; rw [Hm.out, if_pos rfl, if_pos (by have := Hk.out; omega)])
        have HV := Lib.hid (show encV l = encL l by unfold encV; rw [HE.out]; rfl)
        go_wp2
        go_ret2
        rw [HE.out, HV.out, ← Hk.out]
        exact ⟨_, rfl, hown.mono hs1, below_step hb1 hb (Nat.le_refl _)⟩
end
end Str
end Go.Proofs.Ytofoecpnphoohaa
