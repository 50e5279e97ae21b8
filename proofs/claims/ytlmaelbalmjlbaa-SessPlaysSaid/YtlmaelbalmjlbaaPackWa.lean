/- Walks of package pack's Writer: number, add, Put, Part, Bytes; each said of bytes. -/
import Derived.Test.YtlmaelbalmjlbaaOwn
import Derived.Test.YtlmaelbalmjlbaaPackM
import Derived.Test.YtlmaelbalmjlbaaByt
import Derived.Test.YtlmaelbalmjlbaaStep
import Derived.Deep.RegionHeld3
import Derived.StillTailTactics
set_option linter.all false
namespace Go.Proofs.Ytlmaelbalmjlbaa
open Go.RowKit

theorem byteOf (n : Nat) : ((UInt8.ofNat n).toNat : Int) = (n : Int) % 256 := by rw [UInt8.toNat_ofNat']; omega
theorem pow_step (n k : Nat) : n / 256 ^ k / 256 = n / 256 ^ (k + 1) := by rw [Nat.div_div_eq_div_mul, Nat.pow_succ]
theorem div_le_64 (m k : Nat) (h : m < 18446744073709551616) : m / 256 ^ k < 18446744073709551616 := Nat.lt_of_le_of_lt (Nat.div_le_self _ _) h

theorem Bs.new1 (w : World) (q : Nat) (t : TypeId) {g : Nat} (hg : g = w.heap.size) {z : Int} (hz : z = (q : Int) % 256) : Bs (w.alloc (.cells #[.int .u8 z] t)) (some ⟨g, 0, none⟩) 1 [UInt8.ofNat q] := by
  subst hg hz
  have := Bs.new w [UInt8.ofNat q] t (0, 0)
  simpa only [bvs, List.map_cons, List.map_nil, bv, byteOf, List.length_cons, List.length_nil, Nat.zero_add] using this
theorem shr_div (n j : Nat) : (n : Int) / 2 ^ (8 * j) = ((n / 256 ^ j : Nat) : Int) := by
  have h : (2 : Int) ^ (8 * j) = ((256 ^ j : Nat) : Int) := by
    rw [show (256 : Nat) = 2 ^ 8 from rfl, ← Nat.pow_mul]
    simp
  rw [h]
  rfl

set_option maxRecDepth 100000 in
set_option maxHeartbeats 1000000 in
theorem refPut (A B : Option Addr) (n c m d : Nat) (xs : List UInt8) (l : List Nat) (w : World) (hx : Bs w A n xs) (hA : A = none → n = 0) (hnc : n ≤ c) (hl : Ns w B m l) (hd : d ≤ 9223372036854775807) (hmd : m ≤ d) (hn : n + 8 * m ≤ 140737488355328) :
    Calls Try.prog 53 #[.slice A n c, .slice B m d] w fun e w' => ∃ v', e = .returned v' ∧ w'.ownsRow w.heap.size 5 1 v' (n + 8 * m) (bvs (xs ++ numsBytes l)) ∧ Below w.heap.size w w' := by
  obtain ⟨i0, hi0, hz0, hz1, hz2⟩ := info_parts info_u8
  have Hz := Lib.hid hz2
  have Hlen := Lib.hid hl.len
  clear hz2
  go_enter Try.func53, Try.ntmps53
  go_wp2_with (first
    | (at_builtin
       refine wpList_app _ rfl (.const (.slice none 0 0)) (.tmp 8) _ rfl w.heap.size 5 i0 (.int .u8 0) 1 1 Try.underlying34 hi0 hz0 hz1 Hz.out rfl Nat.one_pos _ 0 [] rfl (own_nil _ _ _ _) _ n c _ rfl hA hx (bvs_one _) (by unfold maxLen; omega) (by omega) (Nat.le_refl _) ?_
       intro v1 w1 hown1 hg1 hat1
       have hb1 : Below w.heap.size w w1 := grown_none_below hg1
       simp only [Nat.zero_add, List.nil_append] at hown1
       clear hg1 hat1))
  go_loopw [5, 6] (fun u i wr => ∃ k : Nat, k ≤ m ∧ i = .int .i64 k ∧ wr.ownsRow w.heap.size 5 1 u (n + 8 * k) (bvs (xs ++ numsBytes (l.take k))) ∧ Below w.heap.size w wr) (fun _ i _ => m - (intOf i).toNat)
  case atStart => exact ⟨0, Nat.zero_le _, rfl, by simpa [numsBytes] using hown1, hb1⟩
  case round =>
    obtain ⟨k, hk, rfl, hok, hbk⟩ := hrel
    clear hown1 hb1 hx
    by_cases hlt : k < m
    · obtain ⟨b, o, rfl, hkl, hcell0, hz⟩ := hl.at_ hlt
      go_wp2
      obtain ⟨wo, rfl⟩ : ∃ wo : World, wo = wr := ⟨_, rfl⟩
      go_loopw [5, 7] (fun u i wr => ∃ j : Nat, j ≤ 8 ∧ i = .int .i64 j ∧ wr.ownsRow w.heap.size 5 1 u (n + 8 * k + j) (bvs (xs ++ numsBytes (l.take k) ++ (numBytes l[k]).take j)) ∧ Below w.heap.size w wr) (fun _ i _ => 8 - (intOf i).toNat)
      case atStart => exact ⟨0, by omega, rfl, by simpa using hok, hbk⟩
      case round =>
        obtain ⟨j, hj, rfl, hoj, hbj⟩ := hrel
        have hcell : wr.cell? ⟨b, o + k, none⟩ = _ := (hbj.cell (cell_lt hcell0)).trans hcell0
        by_cases hj8 : j < 8
        · have hs := div_le_64 l[k] j hz
          have H1 := Lib.hid (byteOf (l[k] / 256 ^ j))
          have H3 := Lib.hid (numBytes_take l[k] j hj8)
          clear hok hbk wo hl
          go_wp2_with (first
            | (at_builtin
               refine wpList_app _ rfl (.tmp 20) (.tmp 29) _ rfl w.heap.size 5 i0 (.int .u8 0) 1 1 Try.underlying34 hi0 hz0 hz1 Hz.out rfl Nat.one_pos _ (n + 8 * k + j) _ rfl (hoj.alloc _) _ 1 1 _ rfl (by simp) (Bs.new1 wr (l[k] / 256 ^ j) 5 rfl (by rw [shr_div])) (bvs_one _) (by unfold maxLen; omega) (by omega) (by have := hbj.size; simp; omega) ?_
               intro v2 w2 hown2 hg2 hat2
               have hb2 : Below w.heap.size w w2 := (hbj.alloc hbj.size _).grown hg2 (by simp; have := hbj.size; omega) (fun k hk => (hoj.lt k hk).1)
               rw [← bvs_append, List.append_assoc, ← H3.out] at hown2
               clear hg2 hat2 hoj))
          go_roundw
          case rel => exact ⟨j + 1, by omega, by go_num, hown2, hb2⟩
          case measure => simp [intOf]; omega
        · have hj8 : j = 8 := by omega
          subst hj8
          clear hok hbk hcell
          rw [List.take_of_length_le (l := numBytes l[k]) (by rw [numBytes_length]; omega)] at hoj
          have H4 := Lib.hid (numsBytes_snoc (l.take k) l[k])
          have H5 := Lib.hid (List.take_succ_eq_append_getElem hkl)
          go_wp2
          go_roundw
          case rel => exact ⟨k + 1, by omega, by go_num, by rw [H5.out, H4.out, ← List.append_assoc]; exact hoj, hbj⟩
          case measure => simp [intOf]; omega
    · have hkm : k = m := by omega
      subst hkm
      go_wp2
      go_ret
      rw [List.take_of_length_le (by rw [← Hlen.out]; omega)] at hok
      exact ⟨_, rfl, hok, hbk⟩

set_option maxRecDepth 100000 in
set_option maxHeartbeats 2000000 in
theorem refPart (A B : Option Addr) (n c m d : Nat) (xs : List UInt8) (l : List (List UInt8)) (w : World) (hx : Bs w A n xs) (hA : A = none → n = 0) (hnc : n ≤ c) (hc : c ≤ 9223372036854775807) (hl : Bss w B m l) (hd : d ≤ 9223372036854775807) (hmd : m ≤ d) (hn : n + (partsBytes l).length ≤ 140737488355328) :
    Calls Try.prog 55 #[.slice A n c, .slice B m d] w fun e w' => ∃ A' n' c', e = .returned (.slice A' n' c') ∧ Bs w' A' n' (xs ++ partsBytes l) ∧ (A' = none → n' = 0) ∧ n' ≤ c' ∧ c' ≤ 9223372036854775807 ∧ Below w.heap.size w w' := by
  obtain ⟨i0, hi0, hz0, hz1, hz2⟩ := info_parts info_u8
  have Hz := Lib.hid hz2
  have Hlen := Lib.hid hl.1
  have Hx := Lib.hid hx.len
  clear hz2
  go_enter Try.func55, Try.ntmps55
  go_wp2
  go_loopw [0, 5] (fun u i wr => ∃ (k n' c' : Nat) (A' : Option Addr), k ≤ m ∧ i = .int .i64 k ∧ u = .slice A' n' c' ∧ Bs wr A' n' (xs ++ partsBytes (l.take k)) ∧ (A' = none → n' = 0) ∧ n' ≤ c' ∧ c' ≤ 9223372036854775807 ∧ Below w.heap.size w wr) (fun _ i _ => m - (intOf i).toNat)
  case atStart => exact ⟨0, n, c, A, Nat.zero_le _, rfl, rfl, by simpa [partsBytes] using hx, hA, hnc, hc, Below.refl _ _⟩
  case round =>
    obtain ⟨k, n', c', A', hk, rfl, rfl, hb, hA', hnc', hc', hbl⟩ := hrel
    clear hx
    by_cases hlt : k < m
    · have hkl : k < l.length := by rw [← Hlen.out]; exact hlt
      obtain ⟨b, o, Ap, np, cp, rfl, hcell0, hp1, hp2, hp3⟩ := hl.2 k hkl
      have hcell : wr.cell? ⟨b, o + k, none⟩ = some (.slice Ap np cp) := (hbl.cell (cell_lt hcell0)).trans hcell0
      have hp := hp3.below hbl
      have i1 : (0 : Int) ≤ (k : Int) := by omega
      have i2 : (k : Int) < (m : Int) := by omega
      have hsz : b < wr.heap.size := cell_lt hcell
      have H5 := Lib.hid (List.take_succ_eq_append_getElem hkl)
      have H6 := Lib.hid (partsBytes_snoc (l.take k) l[k])
      have Hnp := Lib.hid hp.len
      have hbd : n' + (8 + np) ≤ 140737488355328 := by
        have h1 := partsBytes_take_length l (k + 1)
        have h2 := hb.len
        rw [H5.out, H6.out, List.length_append, partBytes_length] at h1
        rw [List.length_append] at h2
        have h3 := Hnp.out
        have h4 := Hx.out
        omega
      have hwr : IntKind.u64.wrap (np : Int) = (np : Int) := by simp [IntKind.wrap, IntKind.bits, IntKind.signed]; omega
      have Hnew := fun (W : World) => Ns.new W [np] (by simp; omega) 107 (g := W.heap.size) rfl (C := #[.int .u64 (np : Int)]) (by simp [nvs]) (n := 1) rfl
      clear hl
      go_wp2_with fail
      go_region_held3 (fun w' => w'.cell? ⟨b, o + k, none⟩ = some (.slice Ap np cp)) (first | go_keep | (rw [hb2.cell (by simp; omega)]; go_keep) | (rw [hg3.cell_far _ (by simp; have := hb2.size; simp at this; omega) (by intro e; have := (hown2.lt _ e.symm).1; simp at this; omega)]; assumption))
        (first
          | (go_at_call 53
             refine (refPut A' _ n' c' 1 1 (xs ++ partsBytes (l.take k)) [np] _ ((hb.alloc _).drew) hA' hnc' ((Hnew _).drew) (by omega) (by omega) (by omega)).mono ?_
             rintro e w2 ⟨v2, rfl, hown2, hb2⟩)
          | (refine step_app _ rfl (.tmp 20) (.tmp 24) _ rfl _ 5 i0 (.int .u8 0) 1 1 Try.underlying34 hi0 hz0 hz1 Hz.out rfl Nat.one_pos v2 (n' + 8) _ rfl hown2 Ap np cp _ rfl hp.zero ((Bs.drew (hp.alloc _)).below hb2) (bvs_one _) (by unfold maxLen; omega) (by omega) hb2.size ?_
             intro v3 w3 hown3 hg3 hat3))
      obtain ⟨A3, c3, rfl, hc3, hm3, ha3⟩ := own_form hown3
      have hb3 : Below w.heap.size w w3 := (((hbl.alloc hbl.size _).drew).trans (hb2.mono (by have := hbl.size; simp; omega))).grown hg3 (Nat.le_trans hbl.size (Nat.le_trans (by simp) hb2.size)) (fun j hj => by have := (hown2.lt _ hj).1; have h2 := hbl.size; simp at this; omega)
      have hbs := bs_own (xs := xs ++ partsBytes (l.take k) ++ numBytes np ++ l[k]) (by rw [bvs_append _ l[k]]; simpa [numsBytes] using hown3)
      have H7 := Lib.hid (show xs ++ partsBytes (l.take (k + 1)) = xs ++ partsBytes (l.take k) ++ numBytes np ++ l[k] by
        rw [H5.out, H6.out, partBytes, ← Hnp.out]; simp)
      unfold maxLen at hm3
      clear hb hown3 hown2 hb2 hg3 hat3 hp hwr Hnew hbl hp3 hcell hcell0
      go_wp2
      go_roundw
      case rel => exact ⟨k + 1, n' + 8 + np, c3, A3, by omega, by go_num, rfl, by rw [H7.out]; exact hbs, fun h => (ha3 h).1, hc3, by omega, hb3⟩
      case measure => simp [intOf]; omega
    · have hkm : k = m := by omega
      subst hkm
      go_wp2
      go_ret
      rw [List.take_of_length_le (by rw [← Hlen.out]; omega)] at hb
      exact ⟨_, _, _, rfl, hb, hA', hnc', hc', hbl⟩
end Go.Proofs.Ytlmaelbalmjlbaa
