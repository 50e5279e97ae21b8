/- Layer 8: Apply, Read, Meet. -/
import Derived.Test.YtfgoaedgiomlkaaBloE
set_option linter.all false
namespace Go.Proofs.Ytfgoaedgiomlkaa
open Go.RowKit
namespace Blo

theorem all_right {l : List BOp} {n : Int} (h : l.all (·.right n) = true) {x : BOp} (hx : x ∈ l) : x.Ok n := (ok_of_right (List.all_eq_true.1 h x hx)).1
theorem many_nat {n : Nat} (h : manyB n = true) : n ≤ 1024 := by
  simp only [manyB, Bool.and_eq_true, decide_eq_true_eq] at h; omega
section
variable (w : World)
set_option maxRecDepth 100000 in
set_option maxHeartbeats 2000000 in
theorem apply_ (A : Option Addr) (n c : Nat) (v : List Nat) (h : Ns w A n v) (hA : A = none → n = 0 ∧ c = 0) (hnc : n ≤ c) (hc : c ≤ 9223372036854775807) (B : Option Addr) (k d : Nat) (l : List BOp) (hl : Opl w B k l) (hk : k ≤ 9223372036854775807) :
    Calls Try.prog 15 #[.slice A n c, .slice B k d] w fun e w' => AnsN w w' e (apE n l) (apL v l) := by
  have hnv := h.len
  have hni : I64 (n : Int) := by unfold I64; omega
  have Hlen := Lib.hid hl.len
  have hapl := apL_low h.2 hl.low
  cases hm : manyB n with
  | false =>
    have He := Lib.hid (show apE n l = 6 by unfold apE; rw [hm]; rfl)
    have Hv := Lib.hid (show apL v l = [] by unfold apL; rw [← hnv, hm]; rfl)
    clear hnv
    go_enter Try.func15, Try.ntmps15
    go_wp2_with fail
    refine (volume_ _ n hni).mono ?_
    rw [hm]
    rintro e w2 ⟨rfl, rfl⟩
    go_wp2
    go_ret2
    rw [He.out, Hv.out]
    exact ⟨none, 0, 0, rfl, GotN.no _ _, Below.refl _ _⟩
  | true =>
    have hn := many_nat hm
    cases hr : l.all (·.right n) with
    | false =>
      have He := Lib.hid (show apE n l = 1 by unfold apE; rw [hm, hr]; rfl)
      have Hv := Lib.hid (show apL v l = [] by unfold apL; rw [← hnv, hm, hr]; rfl)
      clear hnv
      go_enter Try.func15, Try.ntmps15
      go_wp2_with fail
      refine (volume_ _ n hni).mono ?_
      rw [hm]
      rintro e w2 ⟨rfl, rfl⟩
      go_wp2_with fail
      refine (right_ _ n B k d l hni hl hk).mono ?_
      rw [hr]
      rintro e w2 ⟨rfl, hb2⟩
      go_wp2
      go_ret2
      rw [He.out, Hv.out]
      exact ⟨none, 0, 0, rfl, GotN.no _ _, hb2⟩
    | true =>
      have He := Lib.hid (show apE n l = 0 by unfold apE; rw [hm, hr]; rfl)
      have Hv := Lib.hid (show apL v l = vol n (l.foldl doF (fun_ v)) by unfold apL; rw [← hnv, hm, hr]; rfl)
      have Hvv := Lib.hid (vol_is hnv)
      clear hnv
      go_enter Try.func15, Try.ntmps15
      go_wp2_with fail
      refine (volume_ _ n hni).mono ?_
      rw [hm]
      rintro e w2 ⟨rfl, rfl⟩
      go_wp2_with fail
      refine (right_ _ n B k d l hni hl hk).mono ?_
      rw [hr]
      rintro e w2 ⟨rfl, hb2⟩
      go_wp2_with fail
      refine (clone_ _ A n c v (h.below hb2) hA hnc hc (by omega)).mono ?_
      rintro e w3 ⟨V, rfl, hown0, hb3⟩
      have hown : w3.ownsRow w.heap.size 45 1 V n (nvs (vol n (fun_ v))) := by
        rw [← Hvv.out]; exact hown0.mono hb2.size
      have hB3 := below_step hb2 hb3 (Nat.le_refl _)
      have hALL := Lib.hid hr
      clear hown0 hb2 hb3 h hm hr
      go_wp2_with fail
      go_loopw [22] (fun iv wr => ∃ (i : Nat) (f : Int → Nat), i ≤ k ∧ iv = .int .i64 (i : Int) ∧ (l.drop i).foldl doF f = l.foldl doF (fun_ v) ∧ wr.ownsRow w.heap.size 45 1 V n (nvs (vol n f)) ∧ Below w.heap.size w wr) (fun iv _ => k - (intOf iv).toNat)
      case atStart => exact ⟨0, fun_ v, Nat.zero_le _, rfl, rfl, hown, hB3⟩
      case round =>
        obtain ⟨i, f, hi, rfl, hL, hO, hb⟩ := hrel
        clear hown hB3
        by_cases hlt : i < k
        · have hil : (i : Int) < (k : Int) := by omega
          have hi0 : (0 : Int) ≤ (i : Int) := by omega
          obtain ⟨b, o, X, m, cc, x, rfl, hx, c0, c1, c2, c3, hd⟩ := (hl.below hb).at_ hlt
          have hok := all_right hALL.out (List.mem_of_getElem? hx)
          rw [drop_of hx, List.foldl_cons] at hL
          have HL := Lib.hid hL
          have hba : Below w.heap.size w (wr.alloc (.cells #[.int .i64 x.kind, .int .i64 x.off, .int .i64 x.len, .slice X m cc] 36)) := hb.alloc hb.size _
          have hd1 := dat_alloc hd (.cells #[.int .i64 x.kind, .int .i64 x.off, .int .i64 x.len, .slice X m cc] 36)
          have hO1 := own_keep hO (show Below wr.heap.size wr (wr.alloc (.cells #[.int .i64 x.kind, .int .i64 x.off, .int .i64 x.len, .slice X m cc] 36)) from (Below.refl _ _).alloc (Nat.le_refl _) _)
          have hbz := hba.size
          clear hL hd hO hb
          go_wp2_with fail
          refine (do_ _ w.heap.size V n f x X m cc hO1 hbz hn hok hd1).mono ?_
          rintro e w' ⟨rfl, hO2, hg2⟩
          have hB2 : Below w.heap.size w w' := hba.grown hg2 hbz (own_from hO1)
          go_wp2
          go_roundw
          case rel => exact ⟨i + 1, _, by omega, by go_num, HL.out, hO2, hB2⟩
          case measure => simp [intOf]; omega
        · have hin : (k : Int) ≤ (i : Int) := by omega
          have HB := Lib.hid (show f = l.foldl doF (fun_ v) by rw [← hL, List.drop_of_length_le (by have := Hlen.out; omega)]; rfl)
          obtain ⟨A', c', rfl, -, -, -⟩ := own_form hO
          clear hL
          go_wp2
          go_ret2
          rw [He.out]
          refine ⟨A', n, c', rfl, ⟨?_, hapl⟩, hb⟩
          rw [Hv.out, ← HB.out]
          exact hO
end
end Blo
end Go.Proofs.Ytfgoaedgiomlkaa
