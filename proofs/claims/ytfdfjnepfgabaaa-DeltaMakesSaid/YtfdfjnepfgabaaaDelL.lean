/- Layer 9: Ops. -/
import Derived.Test.YtfdfjnepfgabaaaDelK
set_option linter.all false
namespace Go.Proofs.Ytfdfjnepfgabaaa
open Go.RowKit Go.Shelf
attribute [local go_sem] Oper.semAt_some

/-- What Ops hands on: a Write of one block for each that is young. -/
def opV (b : Nat) (c : Nat) (z : Nat) : List Value := [.int .i64 1, .int .i64 (z : Int), .int .i64 0, .slice (some ⟨b, z, none⟩) 1 (c - z)]
def opVs (b c : Nat) (l : List Nat) : List Value := l.flatMap (opV b c)
theorem opVs_snoc (b c : Nat) (l : List Nat) (z : Nat) : opVs b c (l ++ [z]) = opVs b c l ++ opV b c z := by simp [opVs]
theorem opVs_len (b c : Nat) : ∀ l : List Nat, (opVs b c l).length = l.length * 4
  | [] => rfl
  | z :: l => by
    have := opVs_len b c l
    simp only [opVs, List.flatMap_cons, List.length_append, List.length_cons] at this ⊢
    rw [this]
    simp [opV]
    omega
theorem opV_one (b c z : Nat) : ∀ u ∈ opV b c z, u.oneCell' = true := by simp [opV, Value.oneCell']
def wOp (v : Int → Nat) (z : Nat) : BOp := ⟨1, (z : Int), 0, [v (z : Int)]⟩
theorem opVs_at (b c : Nat) : ∀ {l : List Nat} {k : Nat} (h : k < l.length) {j : Nat} (_ : j < 4), (opVs b c l)[k * 4 + j]? = (opV b c l[k])[j]?
  | z :: l, 0, _, j, hj => by
    simp only [opVs, List.flatMap_cons]
    rw [List.getElem?_append_left (by simp [opV]; omega)]
    simp
  | z :: l, k + 1, h, j, hj => by
    have := opVs_at b c (l := l) (k := k) (by simpa using h) hj
    simp only [opVs, List.flatMap_cons] at this ⊢
    rw [List.getElem?_append_right (by simp [opV]; omega), show (k + 1) * 4 + j - (opV b c z).length = k * 4 + j by simp [opV]; omega, this]
    simp
/-- Read as ops. -/
theorem opl_of {w : World} {base n0 : Nat} {v : Int → Nat} {b c N cc : Nat} {A : Option Addr} {l : List Nat} (h : w.ownsRow base 76 4 (.slice A l.length cc) l.length (opVs b c l)) (hv : Ns w (some ⟨b, 0, none⟩) N (Blo.vol N v)) (hl : ∀ z ∈ l, z < N) (hN : N ≤ 1024) (hNc : N ≤ c) (hc : c ≤ 9223372036854775807) :
    Blo.Opl w A l.length (l.map (wOp v)) := by
  have hrd := rd_own h
  refine ⟨by simp, fun k hk => ?_⟩
  have hk' : k < l.length := by simpa using hk
  have hz := hl l[k] (List.getElem_mem hk')
  have g : ∀ j (u : Value), (opV b c l[k])[j]? = some u → ∃ b' o', A = some ⟨b', o', none⟩ ∧ w.cell? ⟨b', o' + k * 4 + j, none⟩ = some u := fun j u hu => by
    have hj : j < 4 := by have := (List.getElem?_eq_some_iff.1 hu).1; simpa [opV] using this
    obtain ⟨b', o', e, hc⟩ := hrd.2 (k * 4 + j) u (by rw [opVs_at b c hk' hj]; exact hu)
    exact ⟨b', o', e, by rw [Nat.add_assoc]; exact hc⟩
  obtain ⟨b', o', eA, c0⟩ := g 0 _ rfl
  have g' : ∀ j (u : Value), (opV b c l[k])[j]? = some u → w.cell? ⟨b', o' + k * 4 + j, none⟩ = some u := fun j u hu => by
    obtain ⟨b2, o2, e', hc⟩ := g j u hu
    rw [eA] at e'
    injection e' with e'
    injection e' with e1 e2
    subst e1 e2
    exact hc
  simp only [List.getElem_map]
  refine ⟨b', o', some ⟨b, l[k], none⟩, 1, c - l[k], eA, c0, g' 1 _ rfl, g' 2 _ rfl, g' 3 _ rfl, ?_⟩
  obtain ⟨b2, o2, e2, hx, hcell, hlow⟩ := hv.at_ hz
  cases e2
  rw [Nat.zero_add] at hcell
  refine ⟨⟨⟨rfl, fun j u hu => ?_⟩, ?_⟩, fun h => (by cases h), by omega, by omega, by omega, ⟨by simp [wOp, Blo.I64], by simp [wOp, Blo.I64]; omega, by simp [wOp, Blo.I64]⟩⟩
  · have hv2 : (Blo.vol N v)[l[k]] = v (l[k] : Int) := by
      have := Blo.vol_at v hz
      rw [List.getElem?_eq_getElem hx] at this
      injection this
    have hj : j = 0 := by
      have := (List.getElem?_eq_some_iff.1 hu).1
      simpa [wOp, nvs] using this
    subst hj
    rw [hv2] at hcell
    have hu2 : u = .int .u64 (((v (l[k] : Int)) : Nat) : Int) := by
      have : some (Value.int .u64 (((v (l[k] : Int)) : Nat) : Int)) = some u := hu
      injection this with this
      exact this.symm
    exact ⟨_, _, rfl, by rw [hu2]; exact hcell⟩
  · have hv2 : (Blo.vol N v)[l[k]] = v (l[k] : Int) := by
      have := Blo.vol_at v hz
      rw [List.getElem?_eq_getElem hx] at this
      injection this
    intro z hz2
    rw [List.mem_singleton.1 hz2, ← hv2]
    exact hlow
theorem wOp_right (v : Int → Nat) {z : Nat} (hz : z < 1024) : (wOp v z).right 1024 = true := by
  simp [wOp, BOp.right, manyB, inB]
  exact ⟨decide_eq_true (by omega), by omega⟩
theorem told_w (v : Int → Nat) (y : Nat → Bool) : ∀ (n i : Nat), told ((yl y n).map (wOp v)) (i : Int) = if decide (i < n) && y i then some (v (i : Int)) else none
  | 0, i => by simp [yl, told_nil]
  | n + 1, i => by
    have ih := told_w v y n i
    cases hy : y n with
    | false =>
      rw [yl_no hy, ih]
      by_cases e : i = n
      · subst e; simp [hy]
      · have : decide (i < n + 1) = decide (i < n) := by simp; omega
        rw [this]
    | true =>
      rw [yl_yes hy, List.map_append, List.map_cons, List.map_nil, told_snoc, ih]
      by_cases e : i = n
      · subst e
        have ha : (wOp v i).at_ (i : Int) = true := BOp.at_iff.2 (by simp [wOp, BOp.cnt]; try omega)
        rw [if_pos ha]
        simp [hy, wOp, BOp.val]
      · have ha : ¬ (wOp v n).at_ (i : Int) = true := fun h => by
          have := BOp.at_iff.1 h
          simp [wOp, BOp.cnt] at this
          omega
        rw [if_neg ha]
        have : decide (i < n + 1) = decide (i < n) := by simp; omega
        rw [this]
theorem endL_le {l : List Ext} {lo : Int} (h : listFrom lo l = true) : endL l ≤ 1024 := by
  unfold endL
  cases hl : l.getLast? with
  | none => simp
  | some x => exact list_ends h x (List.mem_of_getLast? hl)
/-- What Ops answers. -/
def opL (a b : List Ext) (gen : Int) (u : List Nat) : List BOp := if rightB a && rightB b then shortS (deltaM a b gen u) 1024 else []
theorem sq_op {b : List Ext} (a : List Ext) (gen : Int) (u : List Nat) : Blo.sqE 1024 ((yl (youngF a b gen) 1024).map (wOp (showF b u))) = 0 ∧ Blo.sqL 1024 ((yl (youngF a b gen) 1024).map (wOp (showF b u))) = shortS (deltaM a b gen u) 1024 := by
  have hall : ((yl (youngF a b gen) 1024).map (wOp (showF b u))).all (·.right ((1024 : Nat) : Int)) = true := by
    refine List.all_eq_true.2 fun o ho => ?_
    obtain ⟨z, hz, rfl⟩ := List.mem_map.1 ho
    have : z < 1024 := by simpa [yl] using (List.mem_filter.1 hz).1
    exact wOp_right _ this
  have hm : manyB ((1024 : Nat) : Int) = true := by decide
  refine ⟨Blo.sqE_of (n := 1024) hm hall, ?_⟩
  rw [show (1024 : Int) = ((1024 : Nat) : Int) from rfl, Blo.sqL_of hm hall]
  refine short_congr fun i hi => ?_
  rw [told_w]
  unfold deltaM
  simp [hi]
theorem row_own {β : Type} (n₀ : Nat) (e : TypeId) (size : Nat) (v : Value) (k : Nat) (xs : List Value) : Go.Own (fun (_ : β) W => W.ownsRow n₀ e size v k xs) := by
  rintro s X Y row hr hg hrow
  refine hr.kept hg ?_
  rcases hr.2 with ⟨rfl, _⟩ | ⟨g, cap, cur, rfl, _, hgb, _⟩
  · exact .inl rfl
  · refine .inr fun e' => ?_
    obtain ⟨o, ho, hc⟩ := hrow g (by simpa [Value.ownBlock] using e'.symm)
    rw [hgb] at ho; cases ho; cases hc
section
variable (w : World)
set_option maxRecDepth 100000 in
set_option maxHeartbeats 4000000 in
theorem Ops_ (A B : Option Addr) (n c m d : Nat) (a b : List Ext) (gen : Int) (U : Option Addr) (k dd : Nat) (u : List Nat) (ha : Es w A n a) (hb : Es w B m b) (hn : n ≤ 9223372036854775807) (hm : m ≤ 9223372036854775807) (hu : Ns w U k u) (hk : k ≤ 9223372036854775807) :
    Calls Try.prog 15 #[.slice A n c, .slice B m d, .int .i64 gen, .slice U k dd] w fun e w' => Blo.AnsG w w' e (yoE a b) (opL a b gen u) := by
  obtain ⟨i0, hi0, hy0, hy1, hy2⟩ := Blo.op_info
  have Hz := Lib.hid hy2
  clear hy2
  refine (callsIn_wide (n := 4)).1 (callsIn_of_wp_marks Try.func15 rfl trivial ?_ rfl)
  simp only [Try.ntmps15, List.size_toArray, List.length_cons, List.length_nil, Nat.reduceAdd, Nat.reduceSub, Array.replicate_succ, Array.replicate_zero, List.push_toArray, List.append_toArray, List.nil_append, List.cons_append]
  refine wpIn_wide.2 ?_
  go_wp2_with fail
  refine (dright_ _ A B n c m d a b ha hb hn hm).mono ?_
  cases hr : (rightB a && rightB b) with
  | false =>
    rintro e w2 ⟨rfl, hb2⟩
    have HE := Lib.hid (show yoE a b = 1 by unfold yoE; rw [hr]; rfl)
    have HL := Lib.hid (show opL a b gen u = [] by unfold opL; rw [hr]; rfl)
    go_wp2
    refine marks0 (results_tmp2 rfl _ _ _) ?_
    rw [HE.out, HL.out]
    exact ⟨none, 0, 0, rfl, ⟨⟨[], Blo.Ol.nil _ _, rfl⟩, by simp⟩, hb2⟩
  | true =>
    rintro e w2 ⟨rfl, hb2⟩
    have HE := Lib.hid (show yoE a b = 0 by unfold yoE; rw [hr]; rfl)
    have HL := Lib.hid (show opL a b gen u = shortS (deltaM a b gen u) 1024 by unfold opL; rw [hr]; rfl)
    have hrr := Bool.and_eq_true_iff.1 hr
    have ha2 := ha.below hb2
    have hb3 := hb.below hb2
    have hu2 := hu.below hb2
    go_wp2_with fail
    refine (view_ _ B m d b 1024 U k dd u hb3 hm (by unfold I64; omega) hu2 hk).mono ?_
    have hvB : vwB b 1024 = true := by
      have h1 := endL_le (right_is.1 hrr.2).1
      simp [vwB, hrr.2]
      exact h1
    rw [show vwE b 1024 = 0 by unfold vwE; rw [hvB]; rfl, show vwL b 1024 u = Blo.vol 1024 (showF b u) by unfold vwL; rw [hvB]; rfl]
    rintro e w3 ⟨V, vn, vc, rfl, hV, hb4⟩
    have hvn : vn = 1024 := by have := hV.own.1; rw [nvs_length, Blo.vol_length] at this; omega
    subst hvn
    obtain ⟨hvc, hvc2, -⟩ := hV.bounds
    have ha3 := ha2.below hb4
    have hb5 := hb3.below hb4
    have hB3 := below_step hb2 hb4 (Nat.le_refl _)
    obtain ⟨gv, hgv⟩ : ∃ gv, w3.heap.size = gv := ⟨_, rfl⟩
    go_wp2_with fail
    obtain ⟨bv, vcc, e⟩ := ownsRow_succ hV.own
    injection e with e1 _ e3
    subst e1 e3
    have hVo := hV.own.mono hb2.size
    have hx4 : Below w.heap.size w ((w3.alloc (.cells #[.slice (some ⟨bv, 0, none⟩) 1024 vc] 23)).alloc (.cells #[.slice none 0 0] 39)) := (hB3.alloc hB3.size _).alloc (by simp; have := hB3.size; omega) _
    have bV0 : Boxed (w3.alloc (.cells #[.slice (some ⟨bv, 0, none⟩) 1024 vc] 23)) gv 23 (.slice (some ⟨bv, 0, none⟩) 1024 vc) := by rw [← hgv]; exact Boxed.new _ _ _
    have bO0 : Boxed ((w3.alloc (.cells #[.slice (some ⟨bv, 0, none⟩) 1024 vc] 23)).alloc (.cells #[.slice none 0 0] 39)) (gv + 1) 39 (.slice none 0 0) := by
      have := Boxed.new (w3.alloc (.cells #[.slice (some ⟨bv, 0, none⟩) 1024 vc] 23)) 39 (.slice none 0 0)
      rw [World.size_alloc, hgv] at this
      exact this
    have ha4 := (ha3.alloc (.cells #[.slice (some ⟨bv, 0, none⟩) 1024 vc] 23)).alloc (.cells #[.slice none 0 0] 39)
    have hb6 := (hb5.alloc (.cells #[.slice (some ⟨bv, 0, none⟩) 1024 vc] 23)).alloc (.cells #[.slice none 0 0] 39)
    have hVo4 := own_keep (own_keep hVo ((Below.refl _ _).alloc (Nat.le_refl _) (.cells #[.slice (some ⟨bv, 0, none⟩) 1024 vc] 23))) ((Below.refl _ _).alloc (Nat.le_refl _) (.cells #[.slice none 0 0] 39))
    have bV4 := bV0.alloc (.cells #[.slice none 0 0] 39)
    have hgn : w.heap.size ≤ gv := by have := hB3.size; omega
    refine (young_ _ A B n c m d a b gen ha4 hb6 hn hm hrr.1 hrr.2).mono ?_
    rintro e w5 ⟨rfl, hk5, hb7⟩
    have bV5 : Boxed w5 gv 23 (.slice (some ⟨bv, 0, none⟩) 1024 vc) := Blk.keep (b := gv) bV4 hb7
    have bO5 : Boxed w5 (gv + 1) 39 (.slice none 0 0) := Blk.keep (b := gv + 1) bO0 hb7
    have hVo5 := own_keep hVo4 hb7
    have hB5 := below_step hx4 hb7 (Nat.le_refl _)
    have hs5 := hk5.lt
    simp only [World.size_alloc, hgv] at hk5 hs5
    clear bV4 bO0 bV0 hVo4 hVo hb7 ha4 hb6 hx4
    go_wp2_with fail
    generalize hy : youngF a b gen = y at *
    refine wpIn_wide.1 (wpIn_rangeFunc_ownH (n := 4) rfl (by omega) (gf := 48) (lb := #[.pointer (some ⟨gv + 1 + 1 + 1, 0, none⟩)]) rfl trivial (enters_of Try.func48 (by kernel_rfl) rfl)
      (young_stops 3 (gv + 1 + 1 + 1) y w5 hk5) (fun _ _ => trivial) (fun _ _ _ _ _ _ _ _ => trivial) (Below.refl _ _) (fun _ => rfl)
      (fun pre W => ((∃ v, Boxed W (gv + 1) 39 v ∧ W.ownsRow w.heap.size 76 4 v (ixs pre).length (opVs bv vc (ixs pre)) ∧ True) ∧ (Boxed W gv 23 (.slice (some ⟨bv, 0, none⟩) 1024 vc) ∧ W.ownsRow w.heap.size 51 1 (.slice (some ⟨bv, 0, none⟩) 1024 vc) 1024 (nvs (Blo.vol 1024 (showF b u))))) ∧ Below w.heap.size w W) (fun _ _ _ => False)
      (OwnFrom.and (OwnFrom.and (Own.from (holdsRow_own w.heap.size (gv + 1) 39 76 4 (fun pre => (ixs pre).length) (fun pre => opVs bv vc (ixs pre)) (fun _ _ => True)) _) (OwnFrom.and (Own.from (boxed_own gv 23 (fun _ => .slice (some ⟨bv, 0, none⟩) 1024 vc)) _) (Own.from (row_own _ _ _ _ _ _) _))) (ownFrom_below (Nat.le_refl _) hB5.size)) (fun _ _ _ _ _ hs _ _ => hs) ⟨⟨⟨_, bO5, World.ownsRow_nil _ _ _ _, trivial⟩, bV5, hVo5⟩, hB5⟩
      (fun x a' W => a' = { tmps := #[.slice A n c, .slice B m d, .int .i64 gen, .slice U k dd, undef, undef, undef, undef, .slice none 0 0, .int .i64 0, .pointer (some ⟨gv, 0, none⟩), .int .i64 0, .pointer (some ⟨gv + 1, 0, none⟩), .int .i64 (x.1 : Int), .slice A n c, .slice B m d, .bool true, .bool false, .tuple #[.slice (some ⟨bv, 0, none⟩) 1024 vc, .int .i64 0], .slice B m d, .slice U k dd, .tuple #[.slice (some ⟨bv, 0, none⟩) 1024 vc, .int .i64 0], .slice (some ⟨bv, 0, none⟩) 1024 vc, .int .i64 0, .slice A n c, .slice B m d, .int .i64 gen, .func (.func 48) #[] #[.pointer (some ⟨gv + 1 + 1 + 1, 0, none⟩)], .int .i64 (x.1 : Int), undef, undef, undef, undef, undef, undef, undef, undef, undef, undef, undef, undef, undef, undef], defers := [] })
      (fun _ _ _ _ _ _ hs _ _ => hs) ?assign ?body ?done ?stop)
    case assign =>
      intro l0 pre x W K hi hK
      gi_wp2
      exact hK _ _ (KeepsFrom.refl _ _) trivial hi rfl
    case body =>
      rintro l0 pre ⟨z, hz⟩ a' W hl ⟨r, hr⟩ ⟨⟨⟨v, hv, hrow, -⟩, hV, hVr⟩, hB⟩ rfl hlt
      have hN := yl_len y 1024
      have hpl : (ixs pre).length = pre.length := List.length_map _
      have hsB := hB.size
      have hz0 : (0 : Int) ≤ (z : Int) := by omega
      have hz1 : (z : Int) < 1024 := by omega
      have hwz : IntKind.i64.wrap ((z : Int) + 1) = (z : Int) + 1 := by rw [IntKind.wrap_i64]; omega
      have hzc : (z : Int) + 1 ≤ (vc : Int) := by omega
      have hzc2 : z + 1 ≤ vc := by omega
      have hzc3 : ¬ z = vc := by omega
      have hzc4 : ¬ vc = z := by omega
      obtain ⟨W1, hW1⟩ : ∃ W1, W.drew = W1 := ⟨_, rfl⟩
      have hv1 : Boxed W1 (gv + 1) 39 v := by rw [← hW1]; exact hv
      have hV1 : Boxed W1 gv 23 (.slice (some ⟨bv, 0, none⟩) 1024 vc) := by rw [← hW1]; exact hV
      have hrow1 : W1.ownsRow w.heap.size 76 4 v (ixs pre).length (opVs bv vc (ixs pre)) := by rw [← hW1]; exact hrow
      have hVr1 : W1.ownsRow w.heap.size 51 1 (.slice (some ⟨bv, 0, none⟩) 1024 vc) 1024 (nvs (Blo.vol 1024 (showF b u))) := by rw [← hW1]; exact hVr
      have hB1 : Below w.heap.size w W1 := by rw [← hW1]; exact ⟨hB.os, hB.tape, hB.output, hB.size, hB.block⟩
      have hs1 : w.heap.size ≤ W1.heap.size := hB1.size
      have hKW : KeepsOthers W W1 := by rw [← hW1]; exact KeepsOthers.drew W
      have hvM := hv1.alloc (.cells #[.int .i64 1, .int .i64 (z : Int), .int .i64 0, .slice (some ⟨bv, z, none⟩) 1 (vc - z)] 76)
      have hVM := hV1.alloc (.cells #[.int .i64 1, .int .i64 (z : Int), .int .i64 0, .slice (some ⟨bv, z, none⟩) 1 (vc - z)] 76)
      have hrowM := own_keep hrow1 ((Below.refl _ W1).alloc (Nat.le_refl _) (.cells #[.int .i64 1, .int .i64 (z : Int), .int .i64 0, .slice (some ⟨bv, z, none⟩) 1 (vc - z)] 76))
      have hVrM := own_keep hVr1 ((Below.refl _ W1).alloc (Nat.le_refl _) (.cells #[.int .i64 1, .int .i64 (z : Int), .int .i64 0, .slice (some ⟨bv, z, none⟩) 1 (vc - z)] 76))
      have hBM := hB1.alloc hs1 (.cells #[.int .i64 1, .int .i64 (z : Int), .int .i64 0, .slice (some ⟨bv, z, none⟩) 1 (vc - z)] 76)
      have hKM := hKW.trans (KeepsOthers.alloc W1 (.cells #[.int .i64 1, .int .i64 (z : Int), .int .i64 0, .slice (some ⟨bv, z, none⟩) 1 (vc - z)] 76))
      have hrdM : Rd (W1.alloc (.cells #[.int .i64 1, .int .i64 (z : Int), .int .i64 0, .slice (some ⟨bv, z, none⟩) 1 (vc - z)] 76)) (some ⟨W1.heap.size, 0, none⟩) 4 1 (opV bv vc z) := Rd.new W1 #[.int .i64 1, .int .i64 (z : Int), .int .i64 0, .slice (some ⟨bv, z, none⟩) 1 (vc - z)] 76 (0, 0) rfl
      have hsM := hBM.size
      have d8 := hV1.cell
      have dv := hv1.cell
      have dvM := hvM.cell
      have f1 := hVM.cell
      generalize hM : W1.alloc (.cells #[.int .i64 1, .int .i64 (z : Int), .int .i64 0, .slice (some ⟨bv, z, none⟩) 1 (vc - z)] 76) = M at *
      have hlen : (ixs (pre ++ [⟨z, hz⟩])).length = (ixs pre).length + 1 := by rw [ixs_snoc, List.length_append, List.length_singleton]
      have hcon : opVs bv vc (ixs (pre ++ [⟨z, hz⟩])) = opVs bv vc (ixs pre) ++ opV bv vc z := by rw [ixs_snoc, opVs_snoc]
      have hfin : ∀ (w3 : World) (A' : Option Addr) (c' : Nat), w3.ownsRow w.heap.size 76 4 (.slice A' ((ixs pre).length + 1) c') ((ixs pre).length + 1) (opVs bv vc (ixs pre) ++ opV bv vc z) → M.grownBy w3 v.ownBlock →
          KeepsFrom w5.heap.size W (w3.setCell ⟨gv + 1, 0, none⟩ (.slice A' ((ixs pre).length + 1) c')) ∧ True ∧ ((∃ v, Boxed (w3.setCell ⟨gv + 1, 0, none⟩ (.slice A' ((ixs pre).length + 1) c')) (gv + 1) 39 v ∧ (w3.setCell ⟨gv + 1, 0, none⟩ (.slice A' ((ixs pre).length + 1) c')).ownsRow w.heap.size 76 4 v (ixs (pre ++ [⟨z, hz⟩])).length (opVs bv vc (ixs (pre ++ [⟨z, hz⟩]))) ∧ True) ∧
            (Boxed (w3.setCell ⟨gv + 1, 0, none⟩ (.slice A' ((ixs pre).length + 1) c')) gv 23 (.slice (some ⟨bv, 0, none⟩) 1024 vc) ∧ (w3.setCell ⟨gv + 1, 0, none⟩ (.slice A' ((ixs pre).length + 1) c')).ownsRow w.heap.size 51 1 (.slice (some ⟨bv, 0, none⟩) 1024 vc) 1024 (nvs (Blo.vol 1024 (showF b u))))) ∧ Below w.heap.size w (w3.setCell ⟨gv + 1, 0, none⟩ (.slice A' ((ixs pre).length + 1) c')) := by
        intro w3 A' c' hown3 hg3
        have hb3 := hvM.kept hg3 (hvM.not_row (by decide) hrowM)
        have hV3 := hVM.kept hg3 (hVM.not_row (by decide) hrowM)
        have hVr3 := own_grown hVrM hg3 (fun q hq e => own_ne hVrM hrowM (by decide) hq e.symm)
        refine ⟨((hKM.trans (keeps_own hrowM hg3)).trans (KeepsOthers.setCell _ _ _)).from _, trivial, ⟨⟨_, hb3.set _, ?_, trivial⟩, hV3.other (by omega) _, ?_⟩, (hBM.grown hg3 hsM (fun q hq => (hrowM.lt q hq).1)).setCell (p := ⟨gv + 1, 0, none⟩) (by simp; omega) _⟩
        · rw [hlen, hcon]
          exact hown3.kept (grownBy_setCell' w3 (gv + 1) _) (.inr (hb3.not_row (by decide) hown3).symm)
        · exact hVr3.kept (grownBy_setCell' w3 (gv + 1) _) (.inr (hb3.not_row (by decide) hVr3).symm)
      clear hKW hKM hBM hB1 hsB hV1 hrow1 hVr1 hlen hcon hv hrow hV hVr
      have hLb : (ixs pre).length ≤ 1024 := by omega
      clear hpl
      generalize (ixs pre).length = L at *
      gi_wp2
      refine wpIn_region_held (S := (fun w0 => w0.cell? ⟨gv, 0, none⟩ = some (.slice (some ⟨bv, 0, none⟩) 1024 vc))) (by kernel_rfl) (noDefer_of (by kernel_rfl)) (by rintro ⟨_, _, h⟩; exact h) ?_
      rw [hW1]
      refine wpAnyH_take (i := 1) (oi := _) (v := ?_) rfl (by kernel_rfl) (by kernel_rfl) (by kernel_rfl) (fun _ _ _ h => h) (Or.inl ⟨by kernel_rfl, ?_⟩) d8 ?_
      rotate_left
      · (rintro w z9; go_simp; (first | done | rfl))
      try simp only [Act.put, List.getElem_toArray, List.getElem_cons_zero, List.getElem_cons_succ, List.setIfInBounds_toArray, List.set_cons_zero, List.set_cons_succ]
      refine wpAnyH_take (i := 2) (oi := _) (v := ?_) rfl (by kernel_rfl) (by kernel_rfl) (by kernel_rfl) (fun _ _ _ h => h) (Or.inl ⟨by kernel_rfl, ?_⟩) d8 ?_
      rotate_left
      · (rintro w z9; go_simp; (first | done | rfl))
      try simp only [Act.put, List.getElem_toArray, List.getElem_cons_zero, List.getElem_cons_succ, List.setIfInBounds_toArray, List.set_cons_zero, List.set_cons_succ]
      refine wpAnyH_take (i := 3) (oi := _) (v := ?_) rfl (by kernel_rfl) (by kernel_rfl) (by kernel_rfl) (fun _ _ _ h => h) (Or.inl ⟨by kernel_rfl, ?_⟩) d8 ?_
      rotate_left
      · (rintro w z9; go_simp; (first | done | rfl))
      try simp only [Act.put, List.getElem_toArray, List.getElem_cons_zero, List.getElem_cons_succ, List.setIfInBounds_toArray, List.set_cons_zero, List.set_cons_succ]
      refine wpAnyH_take (i := 4) (oi := _) (v := ?_) rfl (by kernel_rfl) (by kernel_rfl) (by kernel_rfl) (fun _ _ _ h => h) (Or.inl ⟨by kernel_rfl, ?_⟩) d8 ?_
      rotate_left
      · (rintro w z9; go_simp; (first | done | rfl))
      try simp only [Act.put, List.getElem_toArray, List.getElem_cons_zero, List.getElem_cons_succ, List.setIfInBounds_toArray, List.set_cons_zero, List.set_cons_succ]
      refine wpAnyH_take (i := 5) (oi := _) (v := ?_) rfl (by kernel_rfl) (by kernel_rfl) (by kernel_rfl) (fun _ _ _ h => h) (Or.inl ⟨by kernel_rfl, ?_⟩) d8 ?_
      rotate_left
      · (rintro w z9; go_simp; (first | done | rfl))
      try simp only [Act.put, List.getElem_toArray, List.getElem_cons_zero, List.getElem_cons_succ, List.setIfInBounds_toArray, List.set_cons_zero, List.set_cons_succ]
      refine wpAnyH_take (i := 6) (oi := _) (v := ?_) rfl (by kernel_rfl) (by kernel_rfl) (by kernel_rfl) (fun _ _ _ h => h) (Or.inl ⟨by kernel_rfl, ?_⟩) d8 ?_
      rotate_left
      · (rintro w z9; go_simp; (first | done | rfl))
      try simp only [Act.put, List.getElem_toArray, List.getElem_cons_zero, List.getElem_cons_succ, List.setIfInBounds_toArray, List.set_cons_zero, List.set_cons_succ]
      refine wpAnyH_take (i := 7) (oi := _) (v := ?_) rfl (by kernel_rfl) (by kernel_rfl) (by kernel_rfl) (fun _ _ _ h => h) (Or.inl ⟨by kernel_rfl, ?_⟩) d8 ?_
      rotate_left
      · (rintro w z9; go_simp; (first | done | rfl))
      try simp only [Act.put, List.getElem_toArray, List.getElem_cons_zero, List.getElem_cons_succ, List.setIfInBounds_toArray, List.set_cons_zero, List.set_cons_succ]
      refine wpAnyH_ready (rs := [0, 8]) (by kernel_rfl) (by simp) (AllReadyH.cons (o := _) rfl (fun K hK => ?_) (AllReadyH.cons (o := _) rfl (fun K hK => ?_) AllReadyH.nil))
      · rw [if_pos (by kernel_rfl)]
        go_simp
        refine hK.out _ _ d8 (fun _ => ?_)
        clear hK K
        try simp only [Act.put, List.getElem_toArray, List.getElem_cons_zero, List.getElem_cons_succ, List.setIfInBounds_toArray, List.set_cons_zero, List.set_cons_succ]
        refine wpAnyH_ready (rs := [8]) (by kernel_rfl) (by simp) (AllReadyH.cons (o := _) rfl (fun K hK => ?_) AllReadyH.nil)
        rw [if_pos (by kernel_rfl)]
        go_simp
        refine hK.out _ _ f1 (fun _ => ?_)
        clear hK K
        try simp only [Act.put, List.getElem_toArray, List.getElem_cons_zero, List.getElem_cons_succ, List.setIfInBounds_toArray, List.set_cons_zero, List.set_cons_succ]
        refine wpAnyH_ready (rs := [9]) (by kernel_rfl) (by simp) (AllReadyH.cons (o := _) rfl (fun K hK => ?_) AllReadyH.nil)
        rw [if_pos (by kernel_rfl)]
        refine wp_app _ (.tmp 29) (.tmp 37) 39 rfl w.heap.size 76 i0 _ 4 48 Try.underlying39 hi0 hy0 hy1 Hz.out rfl (by decide) v L (opVs bv vc (ixs pre)) rfl hrowM (some ⟨W1.heap.size, 0, none⟩) 1 1 (opV bv vc z) rfl (fun h => by cases h) hrdM (opV_one _ _ _) (by unfold maxLen; omega) (by omega) hsM ?_
        intro v3 w3' hown3 hg3 hat3
        have hb3 := hvM.kept hg3 (hvM.not_row (by decide) hrowM)
        have hV3 := hVM.kept hg3 (hVM.not_row (by decide) hrowM)
        have hVr3 := own_grown hVrM hg3 (fun q hq e => own_ne hVrM hrowM (by decide) hq e.symm)
        have f3 := hV3.cell
        refine hK.out _ _ f3 (fun _ => ?_)
        clear hK K
        try simp only [Act.put, List.getElem_toArray, List.getElem_cons_zero, List.getElem_cons_succ, List.setIfInBounds_toArray, List.set_cons_zero, List.set_cons_succ]
        refine wpAnyH_ready (rs := [10]) (by kernel_rfl) (by simp) (AllReadyH.cons (o := _) rfl (fun K hK => ?_) AllReadyH.nil)
        rw [if_pos (by kernel_rfl)]
        obtain ⟨A', c', rfl, -, -, -⟩ := own_form hown3
        have d3 := hb3.cell
        have e3 := hb3.frozen
        have f4 := (hV3.other (B' := gv + 1) (by omega) (.slice A' (L + 1) c')).cell
        go_simp
        refine hK.out _ _ f4 (fun _ => ?_)
        clear hK K
        try simp only [Act.put, List.getElem_toArray, List.getElem_cons_zero, List.getElem_cons_succ, List.setIfInBounds_toArray, List.set_cons_zero, List.set_cons_succ]
        refine wpAnyH_done (by kernel_rfl) ?_ _
        gi_wp2
        exact hfin _ _ _ hown3 hg3
      · rw [if_pos (by kernel_rfl)]
        go_simp
        refine hK.out _ _ f1 (fun _ => ?_)
        clear hK K
        try simp only [Act.put, List.getElem_toArray, List.getElem_cons_zero, List.getElem_cons_succ, List.setIfInBounds_toArray, List.set_cons_zero, List.set_cons_succ]
        refine wpAnyH_ready (rs := [0]) (by kernel_rfl) (by simp) (AllReadyH.cons (o := _) rfl (fun K hK => ?_) AllReadyH.nil)
        rw [if_pos (by kernel_rfl)]
        go_simp
        refine hK.out _ _ f1 (fun _ => ?_)
        clear hK K
        try simp only [Act.put, List.getElem_toArray, List.getElem_cons_zero, List.getElem_cons_succ, List.setIfInBounds_toArray, List.set_cons_zero, List.set_cons_succ]
        refine wpAnyH_ready (rs := [9]) (by kernel_rfl) (by simp) (AllReadyH.cons (o := _) rfl (fun K hK => ?_) AllReadyH.nil)
        rw [if_pos (by kernel_rfl)]
        refine wp_app _ (.tmp 29) (.tmp 37) 39 rfl w.heap.size 76 i0 _ 4 48 Try.underlying39 hi0 hy0 hy1 Hz.out rfl (by decide) v L (opVs bv vc (ixs pre)) rfl hrowM (some ⟨W1.heap.size, 0, none⟩) 1 1 (opV bv vc z) rfl (fun h => by cases h) hrdM (opV_one _ _ _) (by unfold maxLen; omega) (by omega) hsM ?_
        intro v3 w3' hown3 hg3 hat3
        have hb3 := hvM.kept hg3 (hvM.not_row (by decide) hrowM)
        have hV3 := hVM.kept hg3 (hVM.not_row (by decide) hrowM)
        have hVr3 := own_grown hVrM hg3 (fun q hq e => own_ne hVrM hrowM (by decide) hq e.symm)
        have f3 := hV3.cell
        refine hK.out _ _ f3 (fun _ => ?_)
        clear hK K
        try simp only [Act.put, List.getElem_toArray, List.getElem_cons_zero, List.getElem_cons_succ, List.setIfInBounds_toArray, List.set_cons_zero, List.set_cons_succ]
        refine wpAnyH_ready (rs := [10]) (by kernel_rfl) (by simp) (AllReadyH.cons (o := _) rfl (fun K hK => ?_) AllReadyH.nil)
        rw [if_pos (by kernel_rfl)]
        obtain ⟨A', c', rfl, -, -, -⟩ := own_form hown3
        have d3 := hb3.cell
        have e3 := hb3.frozen
        have f4 := (hV3.other (B' := gv + 1) (by omega) (.slice A' (L + 1) c')).cell
        go_simp
        refine hK.out _ _ f4 (fun _ => ?_)
        clear hK K
        try simp only [Act.put, List.getElem_toArray, List.getElem_cons_zero, List.getElem_cons_succ, List.setIfInBounds_toArray, List.set_cons_zero, List.set_cons_succ]
        refine wpAnyH_done (by kernel_rfl) ?_ _
        gi_wp2
        exact hfin _ _ _ hown3 hg3
    case done =>
      rintro D xs W hD hxs ⟨⟨⟨v, hv, hrow, -⟩, hV, hVr⟩, hB⟩ hK
      rw [hxs] at hrow
      obtain ⟨A', c', rfl, -, hcm, -⟩ := own_form hrow
      have hd := hv.cell
      have hsB := hB.size
      have hDn : w.heap.size ≤ D := Nat.le_trans hB5.size hD
      have hopl := opl_of (n0 := 0) hrow (no_ns hVr (Blo.vol_low (fun i => show_low hu.2 b i))) (fun z hz => by simpa [yl] using (List.mem_filter.1 hz).1) (Nat.le_refl _) hvc hvc2
      have hsq := sq_op (b := b) a gen u
      rw [hy] at hsq
      have hll := yl_len y 1024
      have HL2 := Lib.hid (show opL a b gen u = shortS (deltaM a b gen u) 1024 from HL.out)
      clear hrow hVr
      go_wp2_with fail
      refine (Blo.squash _ 1024 A' _ c' ((yl y 1024).map (wOp (showF b u))) (by unfold Blo.I64; omega) hopl (by omega)).mono ?_
      rw [hsq.1, hsq.2]
      rintro e w6 ⟨A6, m6, c6, rfl, hG, hb6⟩
      have hK6 : w6.heap[D]? = some (.deferred (some [])) := (hb6.block D (Array.getElem?_eq_some_iff.1 hK).1).trans hK
      have hB6 := hB.trans (hb6.mono hsB)
      go_wp2
      refine marks1 hK6 (results_tmp2 rfl _ _ _) ?_
      rw [HE.out, HL2.out]
      obtain ⟨⟨L, hO, hLl⟩, hsm⟩ := hG
      have hO2 := hO.mono hsB
      exact ⟨A6, m6, c6, rfl, ⟨⟨L, ⟨ownsRow_putObj hO2.row _ hK6 rfl, fun x hx => ownsRow_putObj (hO2.data x hx) _ hK6 rfl, hO2.apart⟩, hLl⟩, hsm⟩, hB6.grown (grownBy_putObj' w6 D _) hB6.size (fun k e => by cases e; exact hDn)⟩
    case stop =>
      rintro D cc pre W _ _ h _
      exact h.elim
end
end Go.Proofs.Ytfdfjnepfgabaaa
