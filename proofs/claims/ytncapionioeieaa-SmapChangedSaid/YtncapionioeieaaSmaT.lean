/- Layer 13: smap's owners and join. -/
import Derived.Test.YtncapionioeieaaSmaQ
import Derived.Test.YtncapionioeieaaSmaO
set_option linter.all false
namespace Go.Proofs.Ytncapionioeieaa
open Go.RowKit
namespace Sma

theorem own_snoc {l : List Pc} {i : Nat} {p : Pc} (h : l[i]? = some p) : own (l.take (i + 1)) = own (l.take i) ++ List.replicate (p.en - p.fr).toNat p.nd := by
  rw [List.take_succ, h, own_app]
  simp [own]
theorem own_part (l : List Pc) (i : Nat) : (own (l.take i)).length ≤ (own l).length := by
  have : own l = own (l.take i) ++ own (l.drop i) := by rw [← own_app, List.take_append_drop]
  rw [this, List.length_append]
  omega
theorem po_fix {w : World} {base : Nat} {v : Value} {n : Nat} {l : List Pc} (h : Po w base v n l) : Po w base v l.length l := by
  have := po_len h
  subst this
  exact h
theorem ivs_rep (n : Nat) (z : Int) : List.replicate n (Value.int .i64 z) = ivs (List.replicate n z) := by simp [ivs]
section
variable (w : World)
set_option maxRecDepth 100000 in
set_option maxHeartbeats 2000000 in
theorem owners_ (m : Mp) (A : Option Addr) (k c : Nat) (h : Mr w m A k c) (hr : m.right = true) : Calls Try.prog 42 #[mv m A k c] w fun e w' => ∃ A' n' c', e = .returned (.slice A' n' c') ∧ w'.ownsRow w.heap.size 3 1 (.slice A' n' c') n' (ivs (own m.ps)) ∧ n' = (own m.ps).length ∧ Below w.heap.size w w' := by
  obtain ⟨i0, hi0', hz0, hz1, hz2⟩ := int_info
  have Hz := Lib.hid hz2
  clear hz2
  obtain ⟨hvv, hnn, hk16, hrun⟩ := right_is hr
  have hol := own_len hrun
  have hmem := Lib.hid (fun p hp => run_mem hrun p hp)
  have hlen := h.len
  have Hlen := Lib.hid hlen
  have hk : k ≤ 16 := by omega
  have hbx := (Below.refl w.heap.size w).alloc (Nat.le_refl _) (mo m A k c)
  have hp1 := h.ps.alloc (mo m A k c)
  simp only [mv]
  clear h hlen hk16 hrun
  go_enter Try.func42, Try.ntmps42
  go_wp2_with fail
  have hsz1 : w.heap.size < (w.alloc (mo m A k c)).heap.size := by simp
  generalize (w.alloc (mo m A k c)) = w1 at *
  go_loopw [3, 9] (fun vv iv wr => ∃ (i N : Nat), i ≤ k ∧ iv = .int .i64 (i : Int) ∧ wr.ownsRow w1.heap.size 3 1 vv N (ivs (own (m.ps.take i))) ∧ Below w.heap.size w wr ∧ Below w1.heap.size w1 wr) (fun _ iv _ => k - (intOf iv).toNat)
  case atStart => exact ⟨0, 0, Nat.zero_le _, rfl, own_nil _ _ _ _, hbx, Below.refl _ _⟩
  case round =>
    obtain ⟨i, N, hi, rfl, hown, hb, hb1⟩ := hrel
    have hNl : N = (own (m.ps.take i)).length := by have := hown.1; rw [ivs_length] at this; omega
    have hNs : N ≤ 1024 := by have := own_part m.ps i; omega
    by_cases hlt : i < k
    · have hil : (i : Int) < (k : Int) := by omega
      have hi0 : (0 : Int) ≤ (i : Int) := by omega
      obtain ⟨b, o, rfl, p, hx, fp, c0, c1, c2⟩ := (hp1.below hb1).at_ hlt
      have hpm := hmem.out p (List.mem_of_getElem? hx)
      obtain ⟨d, hd⟩ := Int.eq_ofNat_of_zero_le (show 0 ≤ p.en - p.fr by omega)
      have hw : IntKind.i64.wrap (p.en - p.fr) = (d : Int) := by rw [hd, IntKind.wrap_i64]; omega
      have hd0 : 0 < d := by omega
      have hd1 : d ≤ 1024 := by omega
      have HO := Lib.hid (show ivs (own (m.ps.take (i + 1))) = ivs (own (m.ps.take i)) ++ List.replicate d (.int .i64 p.nd) by rw [own_snoc hx, hd, Int.toNat_natCast, ivs_app, ivs_rep])
      have hN2 : N + d ≤ 1024 := by
        have h1 := own_part m.ps (i + 1)
        rw [own_snoc hx, List.length_append, List.length_replicate, hd, Int.toNat_natCast] at h1
        omega
      have HP := Lib.hid hpm
      clear hx hNl hd hpm
      have hbp := (Below.refl wr.heap.size wr).alloc (Nat.le_refl _) (po p)
      have hba : Below wr.heap.size wr ((wr.alloc (po p)).alloc (.cells #[.int .i64 p.nd] 3)) := hbp.alloc (by simp) _
      have hxc := (Blk.new (wr.alloc (po p)) 3 #[.int .i64 p.nd] (g := wr.heap.size + 1) (by simp)).cell (j := 0) (u := .int .i64 p.nd) rfl
      have hB := below_step hb hba (Nat.le_refl _)
      have hB1 := below_step hb1 hba (Nat.le_refl _)
      have howna := own_keep hown hba
      have hz3 : N + d ≤ maxLen := by unfold maxLen; omega
      have hz4 : (N + d) * 8 ≤ 140737488355328 := by omega
      clear hbp hba hb hb1 hown
      go_wp2_with fail
      refine (repeat_ _ (wr.heap.size + 1) p.nd 1 hxc d hd0 hd1).mono ?_
      rintro e y ⟨g, rfl, hg, hrd, hby⟩
      have hown2 := own_keep howna hby
      have hBy := below_step hB hby (Nat.le_refl _)
      have hB1y := below_step hB1 hby (Nat.le_refl _)
      have hszy : w1.heap.size ≤ y.heap.size := hB1y.size
      have hone : ∀ u ∈ List.replicate d (Value.int .i64 p.nd), u.oneCell' = true := by intro u hu; rw [List.eq_of_mem_replicate hu]; rfl
      go_wp2_with (first
        | (at_builtin
           go_must (refine wpList_app _ rfl (.tmp 13) (.tmp 22) _ rfl w1.heap.size 3 i0 _ 1 8 Try.underlying22 hi0' hz0 hz1 Hz.out rfl (by omega) _ N _ rfl hown2 (some ⟨g, 0, none⟩) d d (List.replicate d (.int .i64 p.nd)) rfl (fun h => by cases h) hrd hone hz3 hz4 hszy ?_)
           intro v3 w3 hown3 hg3 hat3
           rw [← HO.out] at hown3
           have hBz : Below w.heap.size w w3 := hBy.grown hg3 hBy.size (fun q hq => Nat.le_trans (Nat.le_of_lt hsz1) (hown2.lt q hq).1)
           have hBz1 : Below w1.heap.size w1 w3 := hB1y.grown hg3 hszy (fun q hq => (hown2.lt q hq).1)
           clear hg3 hat3 hown2)
        | fail)
      go_roundw
      case rel => exact ⟨i + 1, N + d, by omega, by go_num, hown3, hBz, hBz1⟩
      case measure => simp [intOf]; omega
    · have hik : i = k := by omega
      subst hik
      have hin : ¬ (i : Int) < (i : Int) := by omega
      rw [List.take_of_length_le (by rw [← Hlen.out]; omega)] at hown hNl
      have HNl := Lib.hid hNl
      clear hNl
      obtain ⟨A', c', rfl, -, -, -⟩ := own_form hown
      go_wp2
      go_ret
      exact ⟨A', N, c', rfl, hown.mono (Nat.le_of_lt hsz1), HNl.out, hb⟩
set_option maxRecDepth 100000 in
set_option maxHeartbeats 2000000 in
theorem join_ (base : Nat) (v : Value) (n : Nat) (l : List Pc) (b nd : Int) (h : Po w base v n l) (hbs : base ≤ w.heap.size) (hn : n ≤ 100000) (hl : ∀ q ∈ l, 0 ≤ q.fr ∧ q.en ≤ 1024 ∧ 0 ≤ q.en) (hb0 : 0 ≤ b) (hb1 : b ≤ 1024) (hnd : I64 nd) (hf : ∀ q ∈ l, Fit q) :
    Calls Try.prog 43 #[v, .int .i64 b, .int .i64 nd] w fun e w' => ∃ v', e = .returned v' ∧ Po w' base v' (pushC l b nd).length (pushC l b nd) ∧ w.grownBy w' v.ownBlock ∧ (v'.ownBlock = v.ownBlock ∨ v'.ownBlock = some w.heap.size ∨ ∃ g, v'.ownBlock = some g ∧ w.heap.size ≤ g) := by
  obtain ⟨i0, hi0', hz0, hz1, hz2⟩ := pc_info
  have Hz := Lib.hid hz2
  clear hz2
  have hndI := hnd
  unfold I64 at hndI
  have hw1 : IntKind.i64.wrap (b + 1) = b + 1 := by rw [IntKind.wrap_i64]; omega
  have hz3 : n + 1 ≤ maxLen := by unfold maxLen; omega
  have hz4 : (n + 1) * 24 ≤ 140737488355328 := by omega
  have fq : Fit (⟨b, b + 1, nd⟩ : Pc) := ⟨by unfold I64; simp only; omega, by unfold I64; simp only; omega, hnd⟩
  have hrd := (ps_one (w := w) fq (g := w.heap.size) rfl).rd
  have hal : Below w.heap.size w (w.alloc (.cells #[.int .i64 b, .int .i64 (b + 1), .int .i64 nd] 58)) := (Below.refl _ _).alloc (Nat.le_refl _) _
  have hownA := own_keep h hal
  have hszA : base ≤ (w.alloc (.cells #[.int .i64 b, .int .i64 (b + 1), .int .i64 nd] 58)).heap.size := Nat.le_trans hbs hal.size
  rcases snoc_cases l with rfl | ⟨p, y, rfl⟩
  · have hn0 : n = 0 := po_len h
    subst hn0
    obtain ⟨A, c, rfl, hc, hcm, hA⟩ := own_form h
    go_enter Try.func43, Try.ntmps43
    go_wp2_with (first
      | (at_builtin
         go_must (refine wpList_app _ rfl (.tmp 40) (.tmp 46) _ rfl base 58 i0 _ 3 24 Try.underlying23 hi0' hz0 hz1 Hz.out rfl (by omega) _ 0 _ rfl hownA (some ⟨w.heap.size, 0, none⟩) 1 1 (pvs [⟨b, b + 1, nd⟩]) rfl (fun h => by cases h) hrd (pvs_one _) hz3 hz4 hszA ?_)
         intro v3 w3 hown3 hg3 hat3)
      | fail)
    go_ret
    exact ⟨v3, rfl, po_fix (po_of hown3 (show pvs [] ++ pvs [⟨b, b + 1, nd⟩] = pvs (pushC [] b nd) by rw [pushC_nil]; rfl)), grown_step (below_grown hal _) hg3 (fun j hj => .inr hj), hat3.imp id (fun e => .inr ⟨_, e, hal.size⟩)⟩
  · obtain ⟨g, cap, rfl, hnc, hcm, hbg, hgl, hnm, c0, c1, c2, fz, hset⟩ := po_upd (l2 := []) h
    have hyl := hl y (by simp)
    have hyf := hf y (by simp)
    obtain ⟨yf, ye, yn⟩ := hyf.all
    have Hp := Lib.hid (pushC_snoc p y b nd)
    generalize hmp : p.length = j at *
    have hw2 : IntKind.i64.wrap ((n : Int) - 1) = (j : Int) := by rw [IntKind.wrap_i64]; simp at hnm; omega
    have hj0 : (0 : Int) ≤ (j : Int) := by omega
    have hjn : (j : Int) < (n : Int) := by simp at hnm; omega
    have hw3 : IntKind.i64.wrap (y.en + 1) = y.en + 1 := by rw [IntKind.wrap_i64]; omega
    have f1 := fz (j * 3 + 1)
    clear hnm hmp
    by_cases h1 : y.en = b
    · have t1 : (y.en == b) = true := by simpa using h1
      by_cases h2 : y.nd = nd
      · have t2 : (y.nd == nd) = true := by simpa using h2
        have HR := Lib.hid (show pushC (p ++ [y]) b nd = p ++ [⟨y.fr, y.en + 1, y.nd⟩] by rw [Hp.out, if_pos ⟨h1, h2⟩])
        have hs := hset 1 (.int .i64 (y.en + 1)) ⟨y.fr, y.en + 1, y.nd⟩ (by omega) rfl
        clear h1 h2 hset hrd hownA
        go_enter Try.func43, Try.ntmps43
        go_wp2
        go_ret
        exact ⟨_, rfl, by rw [HR.out]; exact po_fix hs, grown_setCell w ⟨g, j * 3 + 1, none⟩ _, .inl rfl⟩
      · have t2 : (y.nd == nd) = false := by simpa using h2
        have HR := Lib.hid (show pushC (p ++ [y]) b nd = p ++ [y] ++ [⟨b, b + 1, nd⟩] by rw [Hp.out, if_neg (fun e => h2 e.2)])
        clear h1 h2 hset
        go_enter Try.func43, Try.ntmps43
        go_wp2_with (first
          | (at_builtin
             go_must (refine wpList_app _ rfl (.tmp 40) (.tmp 46) _ rfl base 58 i0 _ 3 24 Try.underlying23 hi0' hz0 hz1 Hz.out rfl (by omega) _ n _ rfl hownA (some ⟨w.heap.size, 0, none⟩) 1 1 (pvs [⟨b, b + 1, nd⟩]) rfl (fun h => by cases h) hrd (pvs_one _) hz3 hz4 hszA ?_)
             intro v3 w3 hown3 hg3 hat3)
          | fail)
        go_ret
        exact ⟨v3, rfl, po_fix (po_of hown3 (show pvs (p ++ [y]) ++ pvs [⟨b, b + 1, nd⟩] = pvs (pushC (p ++ [y]) b nd) by rw [HR.out, pvs_app (p ++ [y])])), grown_step (below_grown hal _) hg3 (fun j hj => .inr hj), hat3.imp id (fun e => .inr ⟨_, e, hal.size⟩)⟩
    · have t1 : (y.en == b) = false := by simpa using h1
      have HR := Lib.hid (show pushC (p ++ [y]) b nd = p ++ [y] ++ [⟨b, b + 1, nd⟩] by rw [Hp.out, if_neg (fun e => h1 e.1)])
      clear h1 hset
      go_enter Try.func43, Try.ntmps43
      go_wp2_with (first
        | (at_builtin
           go_must (refine wpList_app _ rfl (.tmp 40) (.tmp 46) _ rfl base 58 i0 _ 3 24 Try.underlying23 hi0' hz0 hz1 Hz.out rfl (by omega) _ n _ rfl hownA (some ⟨w.heap.size, 0, none⟩) 1 1 (pvs [⟨b, b + 1, nd⟩]) rfl (fun h => by cases h) hrd (pvs_one _) hz3 hz4 hszA ?_)
           intro v3 w3 hown3 hg3 hat3)
        | fail)
      go_ret
      exact ⟨v3, rfl, po_fix (po_of hown3 (show pvs (p ++ [y]) ++ pvs [⟨b, b + 1, nd⟩] = pvs (pushC (p ++ [y]) b nd) by rw [HR.out, pvs_app (p ++ [y])])), grown_step (below_grown hal _) hg3 (fun j hj => .inr hj), hat3.imp id (fun e => .inr ⟨_, e, hal.size⟩)⟩
end
end Sma
end Go.Proofs.Ytncapionioeieaa
