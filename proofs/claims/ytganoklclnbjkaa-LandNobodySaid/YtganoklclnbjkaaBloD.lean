/- Layer 8: ops are done: Clone, do, Apply, Read, Meet. -/
import Derived.Test.YtganoklclnbjkaaBloC

set_option linter.all false
namespace Go.Proofs.Ytganoklclnbjkaa
open Go.RowKit
namespace Blo

theorem vol_splice {n : Nat} {f g : Int → Nat} {o : Nat} {ds : List Nat} (ho : o + ds.length ≤ n) (h1 : ∀ i : Nat, i < o → g (i : Int) = f (i : Int)) (h2 : ∀ j (hj : j < ds.length), ds[j] = g ((o + j : Nat) : Int)) (h3 : ∀ i : Nat, o + ds.length ≤ i → g (i : Int) = f (i : Int)) :
    (vol n f).take o ++ ds ++ (vol n f).drop (o + ds.length) = vol n g := by
  apply List.ext_getElem?
  intro i
  have hl := vol_length n f
  by_cases a : i < o
  · rw [List.getElem?_append_left (by simp; omega), List.getElem?_append_left (by simp; omega), List.getElem?_take, if_pos a, vol_at f (by omega), vol_at g (by omega), h1 i a]
  · by_cases b : i < o + ds.length
    · rw [List.getElem?_append_left (by simp; omega), List.getElem?_append_right (by simp; omega), vol_at g (by omega)]
      have hm : i - ((vol n f).take o).length = i - o := by simp; omega
      rw [hm, List.getElem?_eq_getElem (by omega), h2 _ (by omega), show o + (i - o) = i by omega]
    · rw [List.getElem?_append_right (by simp; omega), List.getElem?_drop]
      have hm : o + ds.length + (i - ((vol n f).take o ++ ds).length) = i := by simp; omega
      rw [hm]
      by_cases c : i < n
      · rw [vol_at f c, vol_at g c, h3 i (by omega)]
      · rw [List.getElem?_eq_none (by omega), List.getElem?_eq_none (by rw [vol_length]; omega)]
theorem low_do {f : Int → Nat} {o : BOp} (h : low64 f) (hd : ∀ z ∈ o.data, z < 18446744073709551616) : low64 (doF f o) := fun i => by
  unfold doF
  split
  · unfold BOp.val
    split
    · unfold List.getD
      cases hq : o.data[(i - o.off).toNat]? with
      | none => simp
      | some x => exact hd x (List.mem_of_getElem? hq)
    · omega
  · exact h i
theorem vol_low {n : Nat} {f : Int → Nat} (h : low64 f) : ∀ z ∈ vol n f, z < 18446744073709551616 := fun z hz => by
  obtain ⟨i, _, rfl⟩ := List.mem_map.1 hz
  exact h _
theorem do_write {n : Nat} {f : Int → Nat} {o : BOp} {k : Nat} (hk : o.off = (k : Int)) (h1 : o.kind = 1) (hn : k + o.data.length ≤ n) : (vol n f).take k ++ o.data ++ (vol n f).drop (k + o.data.length) = vol n (doF f o) := by
  have hc : o.cnt = (o.data.length : Int) := by unfold BOp.cnt; rw [if_pos h1]
  refine vol_splice hn (fun i hi => ?_) (fun j hj => ?_) (fun i hi => ?_)
  · unfold doF; rw [if_neg (fun e => by have := BOp.at_iff.1 e; omega)]
  · unfold doF BOp.val
    rw [if_pos (BOp.at_iff.2 ⟨by omega, by omega⟩), if_pos h1, show (((k + j : Nat) : Int) - o.off).toNat = j by omega]
    simp [List.getD, List.getElem?_eq_getElem hj]
  · unfold doF; rw [if_neg (fun e => by have := BOp.at_iff.1 e; omega)]
theorem do_trim {n : Nat} {f : Int → Nat} {o : BOp} {k m : Nat} (hk : o.off = (k : Int)) (h1 : o.kind = 2) (hm : o.len = (m : Int)) (hn : k + m ≤ n) : (vol n f).take k ++ List.replicate m 0 ++ (vol n f).drop (k + m) = vol n (doF f o) := by
  have hc : o.cnt = (m : Int) := by unfold BOp.cnt; rw [if_neg (by omega), if_pos h1, hm]
  have hl : (List.replicate m 0).length = m := by simp
  have := vol_splice (n := n) (f := f) (g := doF f o) (o := k) (ds := List.replicate m 0) (by rw [hl]; exact hn) (fun i hi => ?_) (fun j hj => ?_) (fun i hi => ?_)
  · rwa [hl] at this
  · unfold doF; rw [if_neg (fun e => by have := BOp.at_iff.1 e; omega)]
  · rw [hl] at hj
    unfold doF BOp.val
    rw [if_pos (BOp.at_iff.2 ⟨by omega, by omega⟩), if_neg (by omega)]
    simp
  · rw [hl] at hi
    unfold doF; rw [if_neg (fun e => by have := BOp.at_iff.1 e; omega)]

/-! ### copy and clear, onto a row of the call's own -/
section
variable (w : World)
set_option maxRecDepth 100000 in
set_option maxHeartbeats 400000 in
theorem clone_ (A : Option Addr) (n c : Nat) (l : List Nat) (hr : Ns w A n l) (hA : A = none → n = 0 ∧ c = 0) (hnc : n ≤ c) (hc : c ≤ 9223372036854775807) (hnb : n * 8 ≤ 140737488355328) :
    Calls Try.prog 42 #[.slice A n c] w fun e w' => ∃ v, e = .returned v ∧ w'.ownsRow w.heap.size 62 1 v n (nvs l) ∧ Below w.heap.size w w' := by
  obtain ⟨i0, hi0, hz0, hz1, hz2⟩ := u64_info
  have Hz := Lib.hid hz2
  have Hl := Lib.hid hr.len
  clear hz2
  have hne := fun (w : World) (a : Option Addr) (n c : Nat) => Lib.run_eql_slice_nil (P := Try.prog) w 27 62 a n c 0 0 Try.underlying27
  cases A with
  | none =>
    obtain ⟨rfl, rfl⟩ := hA rfl
    have hx : l = [] := List.eq_nil_of_length_eq_zero (by rw [← Hl.out])
    subst hx
    go_enter Try.func42, Try.ntmps42
    go_wp2
    go_ret
    exact ⟨_, rfl, own_nil _ _ _ _, Below.refl _ _⟩
  | some a =>
    go_enter Try.func42, Try.ntmps42
    go_wp2_with (first
    | (at_builtin
       refine wpList_app _ rfl (.tmp 5) (.tmp 6) _ rfl w.heap.size 62 i0 (.int .u64 0) 1 8 Try.underlying27 hi0 hz0 hz1 Hz.out rfl Nat.one_pos (.slice (some ⟨w.heap.size, 0, none⟩) 0 0) 0 [] rfl (own_new w w.heap.size #[] 62 rfl (Nat.le_refl _) (by unfold maxLen; omega)) (some a) n c (nvs l) rfl (by simp) (hr.1.alloc _) (nvs_one l) (by unfold maxLen; omega) (by omega) (by simp) ?_
       intro v2 w2 hown2 hg2 hat2
       have hb2 : Below w.heap.size w w2 := ((Below.refl _ _).alloc (Nat.le_refl _) _).grown hg2 (by simp) (fun k hk => by simp [Value.ownBlock] at hk; omega)
       simp only [Nat.zero_add, List.nil_append] at hown2))
    go_ret
    exact ⟨_, rfl, hown2, hb2⟩
end
end Blo
end Go.Proofs.Ytganoklclnbjkaa
