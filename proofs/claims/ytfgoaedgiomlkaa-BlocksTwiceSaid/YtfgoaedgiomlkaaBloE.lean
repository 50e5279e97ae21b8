/- Layer 8: do, Apply, Read, Meet. -/
import Derived.Test.YtfgoaedgiomlkaaBloD
set_option linter.all false
namespace Go.Proofs.Ytfgoaedgiomlkaa
open Go.RowKit
namespace Blo

/-- What Apply answers: the error's number, the volume. -/
def apE (n : Nat) (l : List BOp) : Int := if manyB n then (if l.all (·.right n) then 0 else 1) else 6
def apL (v : List Nat) (l : List BOp) : List Nat := if manyB v.length then (if l.all (·.right v.length) then vol v.length (l.foldl doF (fun_ v)) else []) else []
/-- Rows of numbers that were answered. -/
structure GotN (w : World) (B : Nat) (A : Option Addr) (m c : Nat) (l : List Nat) : Prop where
  own : w.ownsRow B 45 1 (.slice A m c) m (nvs l)
  low : ∀ z ∈ l, z < 18446744073709551616
theorem GotN.ns {w : World} {B : Nat} {A : Option Addr} {m c : Nat} {l : List Nat} (h : GotN w B A m c l) : Ns w A m l := no_ns h.own h.low
theorem GotN.keep {w w' : World} {B : Nat} {A : Option Addr} {m c : Nat} {l : List Nat} (h : GotN w B A m c l) (hb : Below w.heap.size w w') : GotN w' B A m c l := ⟨own_keep h.own hb, h.low⟩
theorem GotN.no (w : World) (B : Nat) : GotN w B none 0 0 [] := ⟨own_nil _ _ _ _, by simp⟩
theorem GotN.bounds {w : World} {B : Nat} {A : Option Addr} {m c : Nat} {l : List Nat} (h : GotN w B A m c l) : m ≤ c ∧ c ≤ 9223372036854775807 ∧ (A = none → m = 0 ∧ c = 0) := by
  obtain ⟨A', c', e, h1, h2, h3⟩ := own_form h.own
  injection e with e1 _ e3
  subst e1 e3
  exact ⟨h1, by unfold maxLen at h2; omega, h3⟩
def AnsN (w w' : World) (e : Ending) (er : Int) (l : List Nat) : Prop := ∃ A m c, e = .returned (.tuple #[.slice A m c, .int .i64 er]) ∧ GotN w' w.heap.size A m c l ∧ Below w.heap.size w w'
theorem foldl_low {l : List BOp} (hd : ∀ o ∈ l, ∀ z ∈ o.data, z < 18446744073709551616) {f : Int → Nat} (h : low64 f) : low64 (l.foldl doF f) := by
  induction l generalizing f with
  | nil => exact h
  | cons o l ih => exact ih (fun x hx => hd x (by simp [hx])) (low_do h (hd o (by simp)))
theorem Opl.low {w : World} {A : Option Addr} {n : Nat} {l : List BOp} (h : Opl w A n l) : ∀ o ∈ l, ∀ z ∈ o.data, z < 18446744073709551616 := fun o ho => by
  obtain ⟨k, hk, rfl⟩ := List.getElem_of_mem ho
  obtain ⟨b, o, X, m, c, _, _, _, _, _, hd⟩ := h.each k hk
  exact hd.ns.2
theorem apL_low {v : List Nat} {l : List BOp} (hv : ∀ z ∈ v, z < 18446744073709551616) (hd : ∀ o ∈ l, ∀ z ∈ o.data, z < 18446744073709551616) : ∀ z ∈ apL v l, z < 18446744073709551616 := by
  unfold apL
  split
  · split
    · exact vol_low (foldl_low hd (fun_low hv))
    · simp
  · simp
theorem dat_alloc {w : World} {o : BOp} {X : Option Addr} {m c : Nat} (h : Dat w o X m c) (x : Obj) : Dat (w.alloc x) o X m c := h.below ((Below.refl _ _).alloc (Nat.le_refl _) _)
section
variable (w : World)
theorem range_at (o : BOp) (X : Option Addr) (m c : Nat) (h : Dat w o X m c) (k q : Nat) (hk : o.from_ = (k : Int)) (hq : o.cnt = (q : Int)) : Calls Try.prog 22 #[.agg #[.int .i64 o.kind, .int .i64 o.off, .int .i64 o.len, .slice X m c]] w fun e w' => e = .returned (.tuple #[.int .i64 (k : Int), .int .i64 (q : Int)]) ∧ Below w.heap.size w w' := by
  have := range_ w o X m c h
  rw [hk, hq] at this
  exact this
theorem rrange_at (o : BOp) (X : Option Addr) (m c : Nat) (h : Dat w o X m c) (k q : Nat) (hk : o.from_ = (k : Int)) (hq : o.cnt = (q : Int)) : Calls Try.prog 26 #[.agg #[.int .i64 o.kind, .int .i64 o.off, .int .i64 o.len, .slice X m c]] w fun e w' => e = .returned (.tuple #[.int .i64 (k : Int), .int .i64 (q : Int)]) ∧ Below w.heap.size w w' := by
  have := rrange_ w o X m c h
  rw [hk, hq] at this
  exact this
set_option maxRecDepth 100000 in
set_option maxHeartbeats 1000000 in
theorem do_ (base : Nat) (v : Value) (n : Nat) (f : Int → Nat) (o : BOp) (X : Option Addr) (m c : Nat) (hown : w.ownsRow base 45 1 v n (nvs (vol n f))) (hb : base ≤ w.heap.size) (hn : n ≤ 1024) (ho : o.Ok n) (h : Dat w o X m c) :
    Calls Try.prog 21 #[v, .agg #[.int .i64 o.kind, .int .i64 o.off, .int .i64 o.len, .slice X m c]] w fun e w' => e = .returned (.tuple #[]) ∧ w'.ownsRow base 45 1 v n (nvs (vol n (doF f o))) ∧ w.grownBy w' v.ownBlock := by
  obtain ⟨fk, fo, fl⟩ := h.fit.all
  have hlow := ho.low
  have hhigh := ho.high
  have hsome := ho.some
  obtain ⟨k, hk⟩ := Int.eq_ofNat_of_zero_le hlow
  obtain ⟨q, hq⟩ := Int.eq_ofNat_of_zero_le (show 0 ≤ o.cnt by omega)
  have hfr := from_ok ho
  obtain ⟨g, cap, cur, rfl, hncap, hcap, hbg, hblk, -, -⟩ := own_cells hown (by omega)
  clear hblk
  have hac := Blk.new w 36 #[.int .i64 o.kind, .int .i64 o.off, .int .i64 o.len, .slice X m c] rfl
  have hba : Below w.heap.size w (w.alloc (.cells #[.int .i64 o.kind, .int .i64 o.off, .int .i64 o.len, .slice X m c] 36)) := (Below.refl _ _).alloc (Nat.le_refl _) _
  have h1 := dat_alloc h (.cells #[.int .i64 o.kind, .int .i64 o.off, .int .i64 o.len, .slice X m c] 36)
  have hown1 := own_keep hown hba
  have d0 := hac.cell (j := 0) (u := .int .i64 o.kind) rfl
  have d1 := hac.cell (j := 1) (u := .int .i64 o.off) rfl
  have d2 := hac.cell (j := 2) (u := .int .i64 o.len) rfl
  have d3 := hac.cell (j := 3) (u := .slice X m c) rfl
  have Hk := Lib.hid hk
  have Hq := Lib.hid hq
  have Hfr := Lib.hid hfr
  clear hk hq hfr
  go_enter Try.func21, Try.ntmps21
  go_wp2_with fail
  refine (range_at _ o X m c h1 k q (by rw [Hfr.out, Hk.out]) Hq.out).mono ?_
  have hk := Hk.out
  have hq := Hq.out
  have hfr := Hfr.out
  clear Hk Hq Hfr
  rintro e w1 ⟨rfl, hb1⟩
  have hac1 := hac.keep hb1
  clear d0 d1 d2 d3
  have d0 := hac1.cell (j := 0) (u := .int .i64 o.kind) rfl
  have d3 := hac1.cell (j := 3) (u := .slice X m c) rfl
  have hB1 := below_step hba hb1 (Nat.le_refl _)
  have hown2 := own_keep hown1 hb1
  have hd2 := h1.below hb1
  have hkn : k + q ≤ n := by omega
  have hq0 : 0 < q := by omega
  have t1 : (k : Int) ≤ (n : Int) := by omega
  have t2 : ¬ cap = k := by omega
  have t3 : (0 : Int) ≤ (k : Int) := by omega
  have t4 : IntKind.i64.wrap ((k : Int) + (q : Int)) = ((k + q : Nat) : Int) := by rw [IntKind.wrap_i64]; omega
  have t5 : ((k + q : Nat) : Int) ≤ (cap : Int) := by omega
  have t6 : (k : Int) ≤ ((k + q : Nat) : Int) := by omega
  have t7 : k ≤ cap := by omega
  have hgrow : ∀ w2 : World, w1.grownBy w2 (some g) → w.grownBy w2 (some g) := fun w2 hg => grown_step (below_grown hB1 (some g)) hg (fun j hj => .inr hj)
  clear hac hba h1 hown1 hb1 hac1 hown h
  rcases ho.form with ⟨k1, k2, k3⟩ | ⟨k1, k2⟩
  · have hqm : q = m := by have := hd2.len; unfold BOp.cnt at hq; rw [if_pos k1] at hq; omega
    subst hqm
    have Hd := Lib.hid (do_write (n := n) (f := f) hk k1 (by have := hd2.len; omega))
    have Hm := Lib.hid hd2.len
    have hrd := hd2.ns.1
    obtain ⟨i1, hi1, hz1, hs1, hb1⟩ := u64_info
    have hi2 : (Try.prog.info? 45).map (·.size) = some 1 := by rw [hi1]; simp [hs1]
    clear hi1 hz1 hs1 hb1
    clear hq hfr hk k2 k3 hd2 fo fl hlow hhigh hsome ho
    go_wp2_with (first
      | (refine wpList_copy_row _ rfl (.tmp 22) (.tmp 24) 23 rfl base g n cap 45 _ hown2 Try.underlying23 hi2 k _ X q c _ hrd (nvs_one _) hq0 hkn _ rfl (by omega) rfl ?_
         intro z w2 hown3 hg2))
    go_end0
    refine ⟨rfl, ?_, hgrow _ hg2⟩
    rw [← Hd.out, nvs_app, nvs_app, ← nvs_take, ← nvs_drop, ← Hm.out]
    exact hown3
  · have hqm : o.len = (q : Int) := by unfold BOp.cnt at hq; rw [if_neg (by omega), if_pos k1] at hq; exact hq
    have Hd := Lib.hid (do_trim (n := n) (f := f) hk k1 hqm (by omega))
    clear hq hfr hk k2 hqm hd2 fo fl hlow hhigh hsome ho
    go_wp2_with (first
      | (refine wpList_clear_row _ rfl (.tmp 21) 23 rfl base g n cap 45 (.int .u64 0) _ hown2 Try.underlying23 zero_u64 rfl rfl k q _ hq0 hkn _ rfl (by omega) ?_
         intro w2 hown3 hg2))
    refine bodyPost_ret (results_none rfl _ _ _) rfl ?_
    refine ⟨rfl, ?_, hgrow _ hg2⟩
    rw [← Hd.out, nvs_app, nvs_app, ← nvs_take, ← nvs_drop, ← nvs_zeros]
    exact hown3
end
end Blo
end Go.Proofs.Ytfgoaedgiomlkaa
