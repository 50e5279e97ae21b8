/- Layer 7: what the statements share: does, short, alive; scripts of calls. -/
import Derived.Test.YtiehhmchokbafaaCowAd
import Derived.Test.YtiehhmchokbafaaCowZ
import Derived.Test.YtiehhmchokbafaaShp
set_option linter.all false
namespace Go.Proofs.Ytiehhmchokbafaa
open Go.ChangeShapes Go.WideShapes Go.ChangeAt Go.RowKit

/-! ### scripts -/
abbrev ActV : Type := UInt8 × Int × ExtV × Unit
def actShp : Shp ActV := Shp.agg (Shp.pair Shp.u8 (Shp.pair iShp (Shp.pair extShp Shp.unit)))
/-- An act's cells. -/
def actC (kd : Nat) (r : Int) (x : Ext) : Array Value := #[.int .u8 (kd : Int), .int .i64 r, .int .i64 x.off, .int .i64 x.len, .int .i64 x.phys, .int .i64 x.birth]
theorem act_is {w : World} {cs : List Value} {a : ActV} (h : actShp.R w cs a) : cs = (actC a.1.toNat a.2.1 (toExt a.2.2.1)).toList ∧ I64 a.2.1 ∧ Fit (toExt a.2.2.1) := by
  obtain ⟨c1, r1, rfl, hl1, h1, c2, r2, rfl, hl2, ⟨h2, b2⟩, c3, r3, rfl, hl3, h3, h4⟩ := h
  have h1 : c1 = [.int .u8 (a.1.toNat : Int)] := h1
  have h4 : r3 = [] := h4
  obtain ⟨e3, f3⟩ := ext_is h3
  subst h1 h2 h4 e3
  exact ⟨rfl, b2, f3⟩
theorem act_arr {w : World} {cs : Array Value} {a : ActV} (h : actShp.R w cs.toList a) : cs = actC a.1.toNat a.2.1 (toExt a.2.2.1) ∧ I64 a.2.1 ∧ Fit (toExt a.2.2.1) := by
  obtain ⟨hcs, r⟩ := act_is h
  exact ⟨Array.toList_inj.1 hcs, r⟩
theorem acts_len {w : World} {A : Option Addr} {n c : Nat} {l : List ActV} (h : (Shp.slice actShp 48).R w [.slice A n c] l) : n ≤ 9223372036854775807 ∧ n ≤ c ∧ (A = none → c = 0) := by
  obtain ⟨A', c', e, h1, h2, h3, h4, h5⟩ := h
  simp only [List.cons.injEq, Value.slice.injEq, and_true] at e
  obtain ⟨rfl, rfl, rfl⟩ := e
  exact ⟨by omega, h1, h4⟩
/-- Call k of a script, as it lies in a later world. -/
theorem acts_later {W w : World} {S : Option Addr} {n c : Nat} {l : List ActV} (h : (Shp.slice actShp 48).R W [.slice S n c] l) (hb : Below W.heap.size W w) {k : Nat} (hk : k < n) :
    ∃ b o, S = some ⟨b, o, none⟩ ∧ ∃ (kd : Nat) (r : Int) (x : Ext), kd < 256 ∧ I64 r ∧ Fit x ∧
      w.cell? ⟨b, o + k * 6, none⟩ = some (.int .u8 (kd : Int)) ∧ w.cell? ⟨b, o + k * 6 + 1, none⟩ = some (.int .i64 r) ∧ w.cell? ⟨b, o + k * 6 + 2, none⟩ = some (.int .i64 x.off) ∧ w.cell? ⟨b, o + k * 6 + 3, none⟩ = some (.int .i64 x.len) ∧ w.cell? ⟨b, o + k * 6 + 4, none⟩ = some (.int .i64 x.phys) ∧ w.cell? ⟨b, o + k * 6 + 5, none⟩ = some (.int .i64 x.birth) := by
  obtain ⟨A', c', e, h1, h2, h3, h4, h5⟩ := h
  simp only [List.cons.injEq, Value.slice.injEq, and_true] at e
  obtain ⟨rfl, rfl, rfl⟩ := e
  obtain ⟨b, o, vs, rfl, hl, hc, hr⟩ := h5 k hk
  obtain ⟨rfl, q1, q2⟩ := act_is hr
  have hc' : ∀ (j : Nat) u, (actC l[k].1.toNat l[k].2.1 (toExt l[k].2.2.1)).toList[j]? = some u → w.cell? ⟨b, o + k * 6 + j, none⟩ = some u := fun j u hu => (hb.cell (cell_lt (hc j u hu))).trans (hc j u hu)
  exact ⟨b, o, rfl, _, _, _, l[k].1.toNat_lt, q1, q2, hc' 0 _ rfl, hc' 1 _ rfl, hc' 2 _ rfl, hc' 3 _ rfl, hc' 4 _ rfl, hc' 5 _ rfl⟩
theorem ops_act : Opens Try.prog 26 actShp :=
  opens_struct Try.underlying26 (by kernel_rfl) (opensF_cons (opens_u8 Try.underlying5 (by kernel_rfl)) rfl (opensF_cons ops_int rfl (opensF_cons ops_ext rfl (opensF_nil _))))
theorem ops_acts : Opens Try.prog 22 (Shp.slice actShp 48) := opens_slice 48 Try.underlying22 (by kernel_rfl) (by kernel_rfl) (by decide) ops_act

/-! ### does -/
def actOk (kd : Nat) (x : Ext) : Bool := if kd % 2 = 0 then x.may else rangeB x.off x.len
def actOp (kd : Nat) (x : Ext) (l : List Ext) : List Ext := if kd % 2 = 0 then putL l x else cutL l x.off x.len
theorem mod2 {kd r : Nat} (h : kd % 2 = r) (j : Int) : ((kd : Int) % 2 == j) = decide (j = (r : Int)) := by
  by_cases e : j = (r : Int)
  · subst e; simp; omega
  · rw [decide_eq_false e, beq_eq_false_iff_ne]; omega
theorem rangeB_is {o k : Int} (h : rangeB o k = true) : 0 ≤ o ∧ 1 ≤ k ∧ o + k ≤ 1024 := by have := range_is.1 h; omega
theorem actOp_right {kd : Nat} {x : Ext} {l : List Ext} (h : rightB l = true) (hk : actOk kd x = true) : rightB (actOp kd x l) = true := by
  unfold actOk at hk
  unfold actOp
  by_cases c : kd % 2 = 0
  · rw [if_pos c] at hk ⊢; exact (put_is h hk).1
  · rw [if_neg c] at hk ⊢; exact (cut_is h hk).1
section
variable (w : World) (B f : Nat) (ls : List Root)
set_option maxRecDepth 100000 in
set_option maxHeartbeats 2000000 in
theorem does_ (h : Fo w B f ls) (hB : B ≤ w.heap.size) (hfew : ls.length < 100000) (kd : Nat) (r : Int) (x : Ext) (hk : kd < 256) (fx : Fit x) :
    Calls Try.prog 13 #[.pointer (some ⟨f, 0, none⟩), .agg #[.int .u8 (kd : Int), .int .i64 r, .int .i64 x.off, .int .i64 x.len, .int .i64 x.phys, .int .i64 x.birth]] w (Chg w B f ls r (actOk kd x) (actOp kd x)) := by
  obtain ⟨w1, hw1⟩ : ∃ w1, w1 = w.alloc (.cells (actC kd r x) 26) := ⟨_, rfl⟩
  have hb1 : Below w.heap.size w w1 := by rw [hw1]; exact (Below.refl _ _).alloc (Nat.le_refl _) _
  have h1 := h.below hb1
  by_cases c : kd % 2 = 0
  · have q := mod2 c
    have Ho := Lib.hid (show actOk kd x = x.may by unfold actOk; rw [if_pos c])
    have Hp := Lib.hid (show actOp kd x = fun l => putL l x by funext l; unfold actOp; rw [if_pos c])
    clear c
    have hc := putF_ w1 B f ls h1 (Nat.le_trans hB hb1.size) hfew r x fx
    rw [hw1] at hc
    unfold actC at hc hw1
    go_enter Try.func13, Try.ntmps13
    go_wp2_with fail
    refine hc.mono ?_
    rw [← hw1]
    intro e w2 hC
    have hC2 := hC.back hb1 hB
    obtain ⟨n, er, rfl⟩ := hC.form
    clear hC hc h h1
    go_wp2
    go_ret2
    rw [Ho.out, Hp.out]
    exact hC2
  · have q := mod2 (show kd % 2 = 1 by omega)
    have Ho := Lib.hid (show actOk kd x = rangeB x.off x.len by unfold actOk; rw [if_neg c])
    have Hp := Lib.hid (show actOp kd x = fun l => cutL l x.off x.len by funext l; unfold actOp; rw [if_neg c])
    clear c
    have hc := cutF_ w1 B f ls h1 (Nat.le_trans hB hb1.size) hfew r x.off x.len fx.off fx.len
    rw [hw1] at hc
    unfold actC at hc hw1
    go_enter Try.func13, Try.ntmps13
    go_wp2_with fail
    refine hc.mono ?_
    rw [← hw1]
    intro e w2 hC
    have hC2 := hC.back hb1 hB
    obtain ⟨n, er, rfl⟩ := hC.form
    clear hC hc h h1
    go_wp2
    go_ret2
    rw [Ho.out, Hp.out]
    exact hC2
end
set_option maxRecDepth 100000 in
set_option maxHeartbeats 2000000 in
theorem short_ (S : Option Addr) (n c : Nat) (hn : n ≤ 9223372036854775807) (hc : n ≤ c) (hA : S = none → c = 0) (w : World) :
    Calls Try.prog 12 #[.slice S n c] w fun e w' => e = .returned (.slice S (min n 300) c) ∧ w = w' := by
  have h1 : min (n : Int) 300 = ((min n 300 : Nat) : Int) := by omega
  have h2 : ((min n 300 : Nat) : Int) ≤ (c : Int) := by omega
  have h3 : min n 300 ≤ c := by omega
  obtain ⟨m, hm⟩ : ∃ m, m = min n 300 := ⟨_, rfl⟩
  rw [← hm] at h1 h2 h3 ⊢
  clear hm
  go_enter Try.func12, Try.ntmps12
  go_wp2
  go_ret
  exact ⟨rfl, rfl⟩

/-! ### alive -/
def va : Ext := ⟨0, 4, 0, 0⟩
def vb : Ext := ⟨1, 2, 9, 0⟩
theorem va_may : va.may = true := by decide +kernel
theorem vb_may : vb.may = true := by decide +kernel
theorem va_put : putL [] va = [va] := by decide +kernel
theorem vb_put : (putL [va] vb).length = 3 := by decide +kernel
theorem Chg.done {w w' : World} {B f : Nat} {ls : List Root} {r : Int} {ok : Bool} {op : List Ext → List Ext} {e : Ending} (h : Chg w B f ls r ok op e w') {q : Root} (hq : rootAt ls r = some q) (hok : ok = true) : ∃ q', e = .returned (.tuple #[.int .i64 (ls.length : Int), .int .i64 0]) ∧ More w w' B f ls q (op q.2.list) q' := by
  rcases h with ⟨h1, -, -⟩ | ⟨q2, q', h1, -, h3, h4⟩
  · rw [hq, hok] at h1; exact absurd rfl h1
  · rw [hq] at h1
    injection h1 with h1
    subst h1
    exact ⟨q', h3, h4⟩
set_option maxRecDepth 100000 in
set_option maxHeartbeats 2000000 in
theorem alive_ (w : World) : Calls Try.prog 11 #[] w fun e w' => e = .returned (.bool true) ∧ Below w.heap.size w w' := by
  go_enter Try.func11, Try.ntmps11
  go_wp2_with fail
  refine (newF_ w).mono ?_
  rintro e w1 ⟨f, rfl, h1, hb1⟩
  go_wp2_with fail
  refine (putF_ w1 w.heap.size f _ h1 hb1.size (by simp) 0 va (fit_of va_may)).mono ?_
  intro e w2 hC
  obtain ⟨q2, rfl, hM⟩ := hC.done (q := (none, .nil)) rfl va_may
  have h2 := hM.fo
  have l2 : q2.2.list = [va] := hM.list.trans va_put
  have hb2 := hb1.trans hM.below
  clear hC hM h1 hb1
  go_wp2_with fail
  refine (putF_ w2 w.heap.size f _ h2 hb2.size (by simp) 1 vb (fit_of vb_may)).mono ?_
  intro e w3 hC
  obtain ⟨q3, rfl, hM⟩ := hC.done (q := q2) rfl vb_may
  have h3 := hM.fo
  have l3 : q3.2.list.length = 3 := by rw [hM.list, l2]; exact vb_put
  have hb3 := hb2.trans hM.below
  clear hC hM h2 hb2
  go_wp2_with fail
  refine (listF_ w3 w.heap.size f _ h3 1 q2 rfl).mono ?_
  rintro e w4 ⟨A4, m4, c4, rfl, g4, hb4⟩
  have hm4 : m4 = 1 := by have := g4.es.len; rw [l2] at this; exact this
  subst hm4
  have h4 := h3.below hb4
  have hb34 := hb3.trans (hb4.mono hb3.size)
  clear h3 hb3 g4 hb4
  go_wp2_with fail
  refine (listF_ w4 w.heap.size f _ h4 2 q3 rfl).mono ?_
  rintro e w5 ⟨A5, m5, c5, rfl, g5, hb5⟩
  have hm5 : m5 = 3 := by have := g5.es.len; rw [l3] at this; exact this
  subst hm5
  have h5 := h4.below hb5
  have hb35 := hb34.trans (hb5.mono hb34.size)
  clear h4 hb34 g5 hb5
  go_wp2_with fail
  refine (treesF_ w5 w.heap.size f _ h5).mono ?_
  rintro e w6 ⟨rfl, rfl⟩
  go_wp2
  go_ret
  exact ⟨rfl, hb35⟩
end Go.Proofs.Ytiehhmchokbafaa
