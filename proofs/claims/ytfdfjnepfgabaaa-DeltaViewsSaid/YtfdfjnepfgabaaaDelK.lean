/- Layer 9: Young. -/
import Derived.Test.YtfdfjnepfgabaaaDelJ
set_option linter.all false
namespace Go.Proofs.Ytfdfjnepfgabaaa
open Go.RowKit Go.Shelf
attribute [local go_sem] Oper.semAt_some

theorem keeps_own {W w1 : World} {n₀ : Nat} {e : TypeId} {size k : Nat} {v : Value} {xs : List Value} (h : W.ownsRow n₀ e size v k xs) (hg : W.grownBy w1 v.ownBlock) : KeepsOthers W w1 :=
  KeepsOthers.of_grownBy hg fun j o ej hj => by
    rcases h.2 with ⟨rfl, _⟩ | ⟨g, cap, cur, rfl, _, hgb, _⟩
    · simp [Value.ownBlock] at ej
    · obtain rfl : g = j := by simpa [Value.ownBlock] using ej
      rw [hgb] at hj; cases hj; rfl
theorem pushN_len (l : List Nat) : (pushN l).length ≤ l.length := by
  have : ∀ (l : List Nat) (p : List (Int × Int)), (l.foldl (fun p (z : Nat) => pushP p (z : Int)) p).length ≤ p.length + l.length := by
    intro l
    induction l with
    | nil => intro p; simp
    | cons z l ih =>
      intro p
      have h1 := ih (pushP p (z : Int))
      have h2 := pushP_len p (z : Int)
      rw [List.foldl_cons, List.length_cons]
      omega
  have := this l []
  simpa [pushN] using this
theorem lowP_pushN {l : List Nat} (h : ∀ z ∈ l, z < 1024) : lowP (pushN l) := by
  have : ∀ (l : List Nat) (p : List (Int × Int)), lowP p → (∀ z ∈ l, z < 1024) → lowP (l.foldl (fun p (z : Nat) => pushP p (z : Int)) p) := by
    intro l
    induction l with
    | nil => intro p hp _; exact hp
    | cons z l ih => intro p hp hl; exact ih _ (lowP_push hp (hl z (by simp))) fun y hy => hl y (by simp [hy])
  exact this l [] lowP_nil h
theorem ixs_low (xs : List Ix) : ∀ z ∈ ixs xs, z < 1024 := by
  intro z hz
  obtain ⟨x, _, rfl⟩ := List.mem_map.1 hz
  exact x.2
/-- What Young answers. -/
def yoL (a b : List Ext) (gen : Int) : List (Int × Int) := if rightB a && rightB b then runsTo (youngF a b gen) 1024 else []
def yoE (a b : List Ext) : Int := if rightB a && rightB b then 0 else 1
def AnsP (w w' : World) (e : Ending) (er : Int) (l : List (Int × Int)) : Prop := ∃ A m c, e = .returned (.tuple #[.slice A m c, .int .i64 er]) ∧ Po w' w.heap.size (.slice A m c) m l ∧ Below w.heap.size w w'
section
variable (w : World)
set_option maxRecDepth 100000 in
set_option maxHeartbeats 2000000 in
theorem Young_ (A B : Option Addr) (n c m d : Nat) (a b : List Ext) (gen : Int) (ha : Es w A n a) (hb : Es w B m b) (hn : n ≤ 9223372036854775807) (hm : m ≤ 9223372036854775807) :
    Calls Try.prog 13 #[.slice A n c, .slice B m d, .int .i64 gen] w fun e w' => AnsP w w' e (yoE a b) (yoL a b gen) := by
  refine (callsIn_wide (n := 4)).1 (callsIn_of_wp_marks Try.func13 rfl trivial ?_ rfl)
  simp only [Try.ntmps13, List.size_toArray, List.length_cons, List.length_nil, Nat.reduceAdd, Nat.reduceSub, Array.replicate_succ, Array.replicate_zero, List.push_toArray, List.append_toArray, List.nil_append, List.cons_append]
  refine wpIn_wide.2 ?_
  go_wp2_with fail
  refine (dright_ _ A B n c m d a b ha hb hn hm).mono ?_
  cases hr : (rightB a && rightB b) with
  | false =>
    rintro e w2 ⟨rfl, hb2⟩
    have HE := Lib.hid (show yoE a b = 1 by unfold yoE; rw [hr]; rfl)
    have HL := Lib.hid (show yoL a b gen = [] by unfold yoL; rw [hr]; rfl)
    go_wp2
    refine marks0 (results_tmp2 rfl _ _ _) ?_
    rw [HE.out, HL.out]
    exact ⟨none, 0, 0, rfl, World.ownsRow_nil _ _ _ _, hb2⟩
  | true =>
    rintro e w2 ⟨rfl, hb2⟩
    have HE := Lib.hid (show yoE a b = 0 by unfold yoE; rw [hr]; rfl)
    have HL := Lib.hid (show yoL a b gen = pushN (yl (youngF a b gen) 1024) by unfold yoL; rw [hr, pushN_runs]; rfl)
    have hrr := Bool.and_eq_true_iff.1 hr
    have ha2 := ha.below hb2
    have hb3 := hb.below hb2
    have hbx : Below w.heap.size w (w2.alloc (.cells #[.slice none 0 0] 34)) := hb2.alloc hb2.size _
    have hgp := hb2.size
    go_wp2_with fail
    refine (young_ _ A B n c m d a b gen (ha2.alloc _) (hb3.alloc _) hn hm hrr.1 hrr.2).mono ?_
    rintro e w3 ⟨rfl, hk3, hb4⟩
    have bV : Boxed w3 w2.heap.size 34 (.slice none 0 0) := (Blk.new w2 34 #[.slice none 0 0] rfl).keep hb4
    have hB3 := below_step hbx hb4 (Nat.le_refl _)
    have hs3 := hb4.size
    rw [World.size_alloc] at hk3 hs3
    go_wp2_with fail
    have hs4 := hk3.lt
    obtain ⟨gp, hgpe⟩ : ∃ gp, w2.heap.size = gp := ⟨_, rfl⟩
    rw [hgpe] at hk3 bV hgp hs4
    generalize hy : youngF a b gen = y at *
    have hpl : ∀ pre : List Ix, (pushN (ixs pre)).length ≤ pre.length := fun pre => by have := pushN_len (ixs pre); rw [List.length_map] at this; exact this
    refine wpIn_wide.1 (wpIn_rangeFunc_ownH (n := 4) rfl (by omega) (gf := 48) (lb := #[.pointer (some ⟨w2.heap.size + 1 + 1, 0, none⟩)]) rfl trivial (enters_of Try.func48 (by kernel_rfl) rfl)
      (young_stops 3 (w2.heap.size + 1 + 1) y w3 (by rw [hgpe]; exact hk3)) (fun _ _ => trivial) (fun _ _ _ _ _ _ _ _ => trivial) (Below.refl _ _) (fun _ => rfl)
      (fun pre W => (∃ v, Boxed W gp 34 v ∧ W.ownsRow w.heap.size 50 3 v (pushN (ixs pre)).length (pvs (pushN (ixs pre))) ∧ True) ∧ Below w.heap.size w W) (fun _ _ _ => False)
      (OwnFrom.and (Own.from (holdsRow_own w.heap.size gp 34 50 3 (fun pre => (pushN (ixs pre)).length) (fun pre => pvs (pushN (ixs pre))) (fun _ _ => True)) _) (ownFrom_below (Nat.le_refl _) hB3.size)) (fun _ _ _ _ _ hs _ _ => hs) ⟨⟨_, bV, World.ownsRow_nil _ _ _ _, trivial⟩, hB3⟩
      (fun x a' W => a' = { tmps := #[.slice A n c, .slice B m d, .int .i64 gen, undef, undef, undef, .slice none 0 0, .int .i64 0, .pointer (some ⟨gp, 0, none⟩), .int .i64 (x.1 : Int), .slice A n c, .slice B m d, .bool true, .bool false, .slice A n c, .slice B m d, .int .i64 gen, .func (.func 48) #[] #[.pointer (some ⟨gp + 1 + 1, 0, none⟩)], .int .i64 (x.1 : Int), undef, undef, undef, undef], defers := [] })
      (fun _ _ _ _ _ _ hs _ _ => hs) ?assign ?body ?done ?stop)
    case assign =>
      intro l0 pre x W K hi hK
      gi_wp2
      exact hK _ _ (KeepsFrom.refl _ _) trivial hi rfl
    case body =>
      rintro l0 pre ⟨z, hz⟩ a' W hl ⟨r, hr⟩ ⟨⟨v, hv, hrow, -⟩, hB⟩ rfl hlt
      have hd := hv.cell
      have hpn := hpl pre
      have hN := yl_len y 1024
      have hsB := hB.size
      gi_wp2_with fail
      refine ⟨trivial, (CallsIn.inRound l0 (callsIn_wide.2 (djoin_ _ w.heap.size v _ (pushN (ixs pre)) z hrow hsB (by omega) hz (lowP_pushN (ixs_low pre))))).mono ?_⟩
      rintro e w5 ⟨v', n', rfl, hP, hA⟩
      have hv5 : Boxed w5 gp 34 v := hv.kept hA.1 (hv.not_row (by decide) hrow)
      have hd5 := hv5.cell
      have hf5 := hv5.frozen
      have hn5 := po_len hP
      obtain ⟨A', c', rfl, -, -, -⟩ := own_form hP
      have Hn5 := Lib.hid hn5
      clear hn5
      gi_wp2
      have hne := hv5.not_row (by decide) hP
      refine ⟨((keeps_own hrow hA.1).trans (KeepsOthers.setCell _ _ _)).from _, trivial, ⟨_, hv5.set _, ?_, trivial⟩, (hB.trans (hA.below hsB fun k hk => (hrow.lt k hk).1)).setCell (p := ⟨gp, 0, none⟩) hgp _⟩
      have e : pushN (ixs (pre ++ [⟨z, hz⟩])) = pushP (pushN (ixs pre)) (z : Int) := by rw [ixs_snoc, pushN_snoc]
      rw [e, ← Hn5.out]
      exact hP.kept (grownBy_setCell' w5 gp _) (.inr hne.symm)
    case done =>
      rintro D xs W hD hxs ⟨⟨v, hv, hrow, -⟩, hB⟩ hK
      rw [hxs] at hrow
      obtain ⟨A', c', rfl, -, -, -⟩ := own_form hrow
      have hd := hv.cell
      have hnD : D ≥ w.heap.size := Nat.le_trans hB3.size hD
      go_wp2
      refine marks1 hK (results_tmp2 rfl _ _ _) ?_
      rw [HE.out, HL.out]
      exact ⟨A', _, c', rfl, ownsRow_putObj hrow _ hK rfl, hB.grown (grownBy_putObj' W D _) hB.size (fun k e => by cases e; exact hnD)⟩
    case stop =>
      rintro D cc pre W _ _ h _
      exact h.elim
end
end Go.Proofs.Ytfdfjnepfgabaaa
