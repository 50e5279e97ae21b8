/- Layer 10: a record's numbers and bytes: unsigned, figures, encode. -/
import Derived.Test.YtofoecpnphoohaaStrB
import Derived.Test.YtofoecpnphoohaaPackWb
import Derived.Test.YtofoecpnphoohaaSumWb
import Derived.Test.YtofoecpnphoohaaBloD
set_option linter.all false
namespace Go.Proofs.Ytofoecpnphoohaa
open Go.RowKit
namespace Str
open Blo (I64)
theorem take_snoc {α : Type} {l : List α} {k : Nat} {x : α} (h : l[k]? = some x) : l.take (k + 1) = l.take k ++ [x] := by
  obtain ⟨hk, rfl⟩ := List.getElem?_eq_some_iff.1 h
  exact List.take_succ_eq_append_getElem hk
section
variable (w : World)
set_option maxRecDepth 100000 in
set_option maxHeartbeats 1000000 in
theorem unsigned_ (A : Option Addr) (n c : Nat) (l : List Int) (h : Is w A n l) (h0 : ∀ z ∈ l, 0 ≤ z) (hn : n ≤ 100) :
    Calls Try.prog 46 #[.slice A n c] w fun e w' => ∃ v, e = .returned v ∧ w'.ownsRow w.heap.size 52 1 v n (nvs (l.map Int.toNat)) ∧ Below w.heap.size w w' := by
  obtain ⟨i0, hi0, hz0, hz1, hz2⟩ := u64_info
  have Hz := Lib.hid hz2
  have Hl := Lib.hid h.len
  clear hz2
  go_enter Try.func46, Try.ntmps46
  go_wp2_with fail
  go_loopw [3, 8] (fun vv iv wr => ∃ i : Nat, i ≤ n ∧ iv = .int .i64 (i : Int) ∧ wr.ownsRow w.heap.size 52 1 vv i (nvs ((l.take i).map Int.toNat)) ∧ Below w.heap.size w wr) (fun _ iv _ => n - (intOf iv).toNat)
  case atStart => exact ⟨0, Nat.zero_le _, rfl, by simpa [nvs] using own_nil w w.heap.size 52 1, Below.refl _ _⟩
  case round =>
    obtain ⟨i, hi, rfl, hown, hb⟩ := hrel
    by_cases hlt : i < n
    · have hil : (i : Int) < (n : Int) := by omega
      have hi0' : (0 : Int) ≤ (i : Int) := by omega
      obtain ⟨b, o, x, rfl, hx, hxi, cx⟩ := (h.below hb).get hlt
      have hx0 : 0 ≤ x := h0 x (List.mem_of_getElem? hx)
      have hx1 : x ≤ 9223372036854775807 := hxi.2
      obtain ⟨y, rfl⟩ := Int.eq_ofNat_of_zero_le hx0
      have HT := Lib.hid (take_snoc hx)
      clear h hx hxi
      go_wp2_with (first
        | (at_builtin
           refine wpList_app _ rfl (.tmp 12) (.tmp 15) _ rfl w.heap.size 52 i0 (.int .u64 0) 1 8 Try.underlying37 hi0 hz0 hz1 Hz.out rfl Nat.one_pos _ i _ rfl (hown.alloc _) _ 1 1 (nvs [y]) rfl (by simp) (Ns.new wr [y] (by simp; omega) 52 rfl rfl rfl).1 (nvs_one _) (by unfold maxLen; omega) (by omega) (by have := hb.size; simp; omega) ?_
           intro v2 w2 hown2 hg2 hat2
           have hb2 : Below w.heap.size w w2 := (hb.alloc hb.size _).grown hg2 (by simp; have := hb.size; omega) (fun k hk => (hown.lt k hk).1)
           rw [← nvs_app] at hown2
           clear hg2 hat2 hown))
      go_roundw
      case rel => exact ⟨i + 1, by omega, by go_num, by rw [HT.out, List.map_append]; simpa using hown2, hb2⟩
      case measure => simp [intOf]; omega
    · have hin : i = n := by omega
      subst hin
      rw [List.take_of_length_le (by have := Hl.out; omega)] at hown
      go_wp2
      go_ret
      exact ⟨_, rfl, hown, hb⟩
theorem far_i64 {z : Int} (h : far z) : I64 z := by unfold far at h; unfold I64; omega
theorem MayR.fit {r : Rec} (h : MayR r) : FitR r := by
  have hk := h.1.kind
  obtain ⟨_, h1, h2, h3, h4, h5, h6⟩ := h
  exact ⟨by unfold I64; omega, far_i64 h1, far_i64 h2, far_i64 h3, far_i64 h4, far_i64 h5, far_i64 h6⟩
def headsI (r : Rec) : List Int := [r.k, r.sh, r.sn, r.ba, r.ma, r.off, r.len, (r.d.length : Int)]
theorem headsI_nat (r : Rec) : (headsI r).map Int.toNat = heads r := rfl
theorem headsI_low {r : Rec} (h : MayR r) : ∀ z ∈ headsI r, 0 ≤ z := by
  have hk := h.1.kind
  obtain ⟨_, h1, h2, h3, h4, h5, h6⟩ := h
  unfold far at *
  simp only [headsI, List.mem_cons, List.not_mem_nil, or_false, forall_eq_or_imp, forall_eq]
  omega
theorem headsI_fit {r : Rec} (h : MayR r) : ∀ z ∈ headsI r, I64 z := by
  have hk := h.1.kind
  have hd := h.1.data
  obtain ⟨_, h1, h2, h3, h4, h5, h6⟩ := h
  unfold far at *
  unfold I64
  simp only [headsI, List.mem_cons, List.not_mem_nil, or_false, forall_eq_or_imp, forall_eq]
  omega
set_option maxRecDepth 100000 in
set_option maxHeartbeats 1000000 in
theorem figures_ (r : Rec) (X : Option Addr) (m c : Nat) (h : Rdt w r X m c) (hr : MayR r) :
    Calls Try.prog 30 #[.agg (ra r (.slice X m c))] w fun e w' => ∃ v, e = .returned v ∧ w'.ownsRow w.heap.size 52 1 v (8 + m) (nvs (heads r ++ r.d)) ∧ Below w.heap.size w w' := by
  obtain ⟨i0, hi0, hz0, hz1, hz2⟩ := u64_info
  have Hz := Lib.hid hz2
  clear hz2
  have Hm := Lib.hid h.len
  have hm64 : m ≤ 64 := by rw [Hm.out]; exact hr.1.data
  have hac := Blk.new w 39 (ra r (.slice X m c)) rfl
  obtain ⟨w1, hw1⟩ : ∃ w1, w.alloc (.cells (ra r (.slice X m c)) 39) = w1 := ⟨_, rfl⟩
  have hs1 : w1.heap.size = w.heap.size + 1 := by rw [← hw1]; simp
  have hb1 : Below w.heap.size w w1 := by rw [← hw1]; exact (Below.refl _ _).alloc (Nat.le_refl _) _
  rw [hw1] at hac
  obtain ⟨d0, d1, d2, d3, d4, d5, d6, d7⟩ := (rc_blk hac).all
  simp only [Nat.zero_add] at d0 d1 d2 d3 d4 d5 d6 d7
  have hI : Is (w1.alloc (.cells #[.int .i64 r.k, .int .i64 r.sh, .int .i64 r.sn, .int .i64 r.ba, .int .i64 r.ma, .int .i64 r.off, .int .i64 r.len, .int .i64 (m : Int)] 3)) (some ⟨w.heap.size + 1, 0, none⟩) 8 (headsI r) := Is.new w1 _ (headsI_fit hr) 3 hs1.symm (by rw [Hm.out]; rfl) rfl
  go_enter Try.func30, Try.ntmps30
  go_wp2_with fail
  refine (unsigned_ _ _ 8 8 (headsI r) hI (headsI_low hr) (by omega)).mono ?_
  rintro e w3 ⟨v3, rfl, hown3, hb3⟩
  rw [headsI_nat] at hown3
  have hba : Below w1.heap.size w1 (w1.alloc (.cells #[.int .i64 r.k, .int .i64 r.sh, .int .i64 r.sn, .int .i64 r.ba, .int .i64 r.ma, .int .i64 r.off, .int .i64 r.len, .int .i64 (m : Int)] 3)) := (Below.refl _ _).alloc (Nat.le_refl _) _
  have hb13 : Below w1.heap.size w1 w3 := below_step hba hb3 (Nat.le_refl _)
  have hac3 := hac.keep hb13
  have hns := (h.ns.below (by rw [← hw1]; exact (Below.refl _ _).alloc (Nat.le_refl _) _ : Below w.heap.size w w1)).below hb13
  have hB3 : Below w.heap.size w w3 := below_step hb1 hb13 (Nat.le_refl _)
  have hbase : w.heap.size ≤ w1.heap.size := hb1.size
  have hown := hown3.mono (base' := w.heap.size) (by simp [hs1]; omega)
  have hX := h.nil
  have hz0' : X = none → m = 0 := fun e => (h.nil e).1
  clear d0 d1 d2 d3 d4 d5 d6 d7 hac hI hb3 hba hb13 hown3 hw1 hs1 h hr hb1 hbase
  obtain ⟨d0, d1, d2, d3, d4, d5, d6, d7⟩ := (rc_blk hac3).all
  simp only [Nat.zero_add] at d7
  clear d0 d1 d2 d3 d4 d5 d6
  go_wp2_with (first
    | (at_builtin
       refine wpList_app _ rfl (.tmp 23) (.tmp 25) _ rfl w.heap.size 52 i0 (.int .u64 0) 1 8 Try.underlying37 hi0 hz0 hz1 Hz.out rfl Nat.one_pos v3 8 _ rfl hown X m c (nvs r.d) rfl hz0' hns.1 (nvs_one _) (by unfold maxLen; omega) (by omega) hB3.size ?_
       intro v4 w4 hown4 hg4 hat4
       have hb4 : Below w.heap.size w w4 := hB3.grown hg4 hB3.size (fun k hk => (hown.lt k hk).1)
       rw [← nvs_app] at hown4
       clear hg4 hat4 hown))
  go_ret
  exact ⟨_, rfl, hown4, hb4⟩
end
end Str
end Go.Proofs.Ytofoecpnphoohaa
