/- Layer 12: ground: hold, do, show, plant. -/
import Derived.Test.YtfcfffilfmbpeaaShaG
set_option linter.all false
namespace Go.Proofs.Ytfcfffilfmbpeaa
open Go.RowKit
namespace Sha
open Blo (vol fun_ GotN AnsN I64 Dat FitB range_)

/-- A change's five cells. -/
abbrev cvl (c : Chn) : List Value := [.int .i64 c.kind, .int .i64 c.x.off, .int .i64 c.x.len, .int .i64 c.x.phys, .int .i64 c.x.birth]
abbrev cva (c : Chn) : Array Value := #[.int .i64 c.kind, .int .i64 c.x.off, .int .i64 c.x.len, .int .i64 c.x.phys, .int .i64 c.x.birth]
theorem results_5 {fn : Func} {W : World} {s q : Nat} {c : Chn} {tmps : Array Value} (h : fn.results = #[.cell s 79]) (h2 : tmps.getD s undef = .pointer (some ⟨q, 0, none⟩)) (hb : Blk W q 79 (cva c)) :
    (results fn tmps).run Try.prog W = .ok (.agg (cva c)) W := by
  have h2' : tmps[s]?.getD undef = .pointer (some ⟨q, 0, none⟩) := by simpa using h2
  have d0 := hb.cell (j := 0) rfl
  have d1 := hb.cell (j := 1) rfl
  have d2 := hb.cell (j := 2) rfl
  have d3 := hb.cell (j := 3) rfl
  have d4 := hb.cell (j := 4) rfl
  simp [results, h, h2', go_sem, d0, d1, d2, d3, d4]
theorem set5 {w : World} {b : Nat} {t : TypeId} {x0 x1 x2 x3 x4 : Value} (h : Blk w b t #[x0, x1, x2, x3, x4]) (u0 u1 u2 u3 u4 : Value) :
    Blk (((((w.setCell ⟨b, 0, none⟩ u0).setCell ⟨b, 1, none⟩ u1).setCell ⟨b, 2, none⟩ u2).setCell ⟨b, 3, none⟩ u3).setCell ⟨b, 4, none⟩ u4) b t #[u0, u1, u2, u3, u4] :=
  ((((h.setCell 0 u0).setCell 1 u1).setCell 2 u2).setCell 3 u3).setCell 4 u4
theorem gset5 (w : World) (b o0 o1 o2 o3 o4 : Nat) (u0 u1 u2 u3 u4 : Value) : w.grownBy (((((w.setCell ⟨b, o0, none⟩ u0).setCell ⟨b, o1, none⟩ u1).setCell ⟨b, o2, none⟩ u2).setCell ⟨b, o3, none⟩ u3).setCell ⟨b, o4, none⟩ u4) (some b) := by
  have h := fun (W : World) (o : Nat) (u : Value) => grown_setCell W ⟨b, o, none⟩ u
  exact World.grownBy.trans (World.grownBy.trans (World.grownBy.trans (World.grownBy.trans (h _ _ _) (h _ _ _)) (h _ _ _)) (h _ _ _)) (h _ _ _)
/-- What an op's change is, whose numbers lie at the end of the units. -/
theorem cho_of {n : Nat} {u : List Nat} {o : BOp} (hr : o.right n = true) : Cho n (u ++ o.data) ⟨o.kind, ⟨o.from_, o.cnt, u.length, 0⟩⟩ o := by
  obtain ⟨hok, h0, hn⟩ := ok_of_right hr
  refine ⟨hr, rfl, from_ok hok, rfl, by simp only; omega, by simp only [List.length_append]; omega, rfl, fun hk => ?_⟩
  have hc : o.cnt = (o.data.length : Int) := by unfold BOp.cnt; rw [if_pos hk]
  refine ⟨by simp only [List.length_append]; omega, fun i hi => ?_⟩
  simp only [Int.toNat_natCast, List.getD, List.getElem?_append_right (Nat.le_add_right _ _), Nat.add_sub_cancel_left]
section
variable (w : World)
set_option maxRecDepth 100000 in
set_option maxHeartbeats 1000000 in
theorem hold_ (B n f p off : Nat) (t : TypeId) (cs : Array Value) (U : Nat → Prop) (uv : Value) (u : List Nat) (ls : List Root) (hp : Blk w p t cs) (hG : Gm w B U n f uv u ls) (hc : cs[off + 2]? = some uv) (ht : t ≠ 48 ∧ t ≠ 106 ∧ t ≠ 103 ∧ t ≠ 126) (hB : B ≤ p) (hU : U p) (hUs : ∀ k, U k → k < w.heap.size)
    (o : BOp) (X : Option Addr) (m c : Nat) (hd : Dat w o X m c) (hr : o.right n = true) (hl : (u ++ o.data).length ≤ 1024 * ls.length) :
    Calls Try.prog 41 #[.pointer (some ⟨p, off, none⟩), .agg #[.int .i64 o.kind, .int .i64 o.off, .int .i64 o.len, .slice X m c]] w fun e w' => ∃ uv' ch, e = .returned (.agg (cva ch)) ∧ Cho n (u ++ o.data) ch o ∧ Blk w' p t (cs.setIfInBounds (off + 2) uv') ∧ Gm w' B (gr U w w') n f uv' (u ++ o.data) ls ∧ Fr B U w w' := by
  have hq0 := Blk.new w 31 #[.int .i64 o.kind, .int .i64 o.off, .int .i64 o.len, .slice X m c] rfl
  have hb0 : Below w.heap.size w (w.alloc (.cells #[.int .i64 o.kind, .int .i64 o.off, .int .i64 o.len, .slice X m c] 31)) := (Below.refl _ _).alloc (Nat.le_refl _) _
  have hs0 : (w.alloc (.cells #[.int .i64 o.kind, .int .i64 o.off, .int .i64 o.len, .slice X m c] 31)).heap.size = w.heap.size + 1 := by simp
  have hr0 := Blk.new (w.alloc (.cells #[.int .i64 o.kind, .int .i64 o.off, .int .i64 o.len, .slice X m c] 31)) 79 #[.int .i64 0, .int .i64 0, .int .i64 0, .int .i64 0, .int .i64 0] hs0.symm
  have hb1 := hb0.alloc hb0.size (.cells #[.int .i64 0, .int .i64 0, .int .i64 0, .int .i64 0, .int .i64 0] 79)
  have hq1 := hq0.alloc (.cells #[.int .i64 0, .int .i64 0, .int .i64 0, .int .i64 0, .int .i64 0] 79)
  have hch := cho_of (u := u) hr
  have Hm := Lib.hid hd.len
  have hm64 : m ≤ 64 := by
    obtain ⟨hok, -, -⟩ := ok_of_right hr
    have h1 := hd.len
    rcases hok.form with ⟨-, -, q⟩ | ⟨-, q⟩
    · omega
    · rw [q] at h1; simp at h1; omega
  obtain ⟨w1, hw1⟩ : ∃ w1, (w.alloc (.cells #[.int .i64 o.kind, .int .i64 o.off, .int .i64 o.len, .slice X m c] 31)).alloc (.cells #[.int .i64 0, .int .i64 0, .int .i64 0, .int .i64 0, .int .i64 0] 79) = w1 := ⟨_, rfl⟩
  have hs1 : w1.heap.size = w.heap.size + 2 := by rw [← hw1]; simp
  rw [hw1] at hq1 hb1 hr0
  clear hq0 hb0 hs0
  have c0 := hq1.cell (j := 0) rfl
  have c1 := hq1.cell (j := 1) rfl
  have c2 := hq1.cell (j := 2) rfl
  have c3 := hq1.cell (j := 3) rfl
  go_enter Try.func41, Try.ntmps41
  go_wp2_with fail
  refine (range_ _ o X m c (hd.below hb1)).mono ?_
  rintro e w2 ⟨rfl, hb2⟩
  have hq2 := hq1.keep hb2
  have hr2 := hr0.keep hb2
  have hB2 := below_step hb1 hb2 (Nat.le_refl _)
  have hp2 := hp.keep hB2
  have hG2 := hG.below hB2
  have hd2 := (hd.below hB2).ns
  have hs2 := hb2.size
  clear c0 c1 c2 c3 hq1 hr0 hp hG hb1 hb2
  go_wp2_with fail
  have c0 := hq2.cell (j := 0) (u := .int .i64 o.kind) rfl
  have c3 := hq2.cell (j := 3) (u := .slice X m c) rfl
  have r0 := hr2.cell (j := 0) (u := .int .i64 0) rfl
  have hqU : ¬ U w.heap.size := fun e => Nat.lt_irrefl _ (hUs _ e)
  have hrU : ¬ U (w.heap.size + 1) := fun e => by have := hUs _ e; omega
  have hlay := lay_ w2.drew B n f p off t cs U uv u ls hp2 (hG2.drewN 1) hc ht hB hU X m c o.data hd2 (fun h => (hd.nil h).1) (by omega) hl
  have hfop : ¬ FoT 31 := by unfold FoT; decide
  go_region_held3 (fun w' => w'.cell? ⟨w.heap.size, 0, none⟩ = some (.int .i64 o.kind) ∧ w'.cell? ⟨w.heap.size, 3, none⟩ = some (.slice X m c))
    (first | go_keep | exact ⟨c0, c3⟩ | exact ⟨hq4.cell rfl, hq4.cell rfl⟩)
    (first
      | (go_at_call 57; refine hlay.mono ?_
         rintro e w4 ⟨uv', rfl, hp4, hG4, hF4⟩
         have hq4 := hF4.blk _ _ _ hq2 hqU hfop
         have hr4 := hF4.blk _ _ _ hr2 hrU fot_change
         have e0 := hr4.cell (j := 0) (u := .int .i64 0) rfl
         have e1 := hr4.cell (j := 1) (u := .int .i64 0) rfl
         have e2 := hr4.cell (j := 2) (u := .int .i64 0) rfl
         have e3 := hr4.cell (j := 3) (u := .int .i64 0) rfl
         have e4 := hr4.cell (j := 4) (u := .int .i64 0) rfl
         have f0 := hr4.free 0
         have f1 := hr4.free 1
         have f2 := hr4.free 2
         have f3 := hr4.free 3
         have f4 := hr4.free 4))
  go_wp2
  have hr5 := set5 hr4 (.int .i64 o.kind) (.int .i64 o.from_) (.int .i64 o.cnt) (.int .i64 (u.length : Int)) (.int .i64 0)
  have hg5 := gset5 w4 (w.heap.size + 1) 0 1 2 3 4 (.int .i64 o.kind) (.int .i64 o.from_) (.int .i64 o.cnt) (.int .i64 (u.length : Int)) (.int .i64 0)
  refine bodyPost_ret (results_5 (c := ⟨o.kind, ⟨o.from_, o.cnt, u.length, 0⟩⟩) rfl rfl hr5) rfl ?_
  have hne : p ≠ w.heap.size + 1 := fun e => hrU (e ▸ hU)
  have hFr2 : Fr B U w w2 := Fr.ofBelow hB2 (Nat.le_trans hB (Nat.le_of_lt (by have := hUs p hU; exact this)))
  have hs4 := hF4.size
  have hF5 : Fr B U w w4 := hFr2.then hF4.undrew fun j hj => .inl hj
  refine ⟨uv', ⟨o.kind, ⟨o.from_, o.cnt, u.length, 0⟩⟩, rfl, hch, hp4.grown hg5 (fun e => by injection e with e; exact hne e), ?_, ?_⟩
  · have hap : uv'.ownBlock ≠ some (w.heap.size + 1) := hG4.apart hr4 (by decide)
    refine (hG4.grown hg5 hr4 hap (by decide) (by decide) (by decide)).sub fun k hk hg => ?_
    have hsz := hg5.size
    rcases hg with hg | ⟨h1, h2⟩
    · exact .inl hg
    · have : w.heap.size ≤ k := Nat.le_trans hB2.size h1
      exact .inr ⟨this, Nat.lt_of_lt_of_le h2 hsz⟩
  · refine hF5.then (U' := fun k => k = w.heap.size + 1) (Fr.grown hg5 (Nat.le_trans (Nat.le_trans hB (Nat.le_of_lt (hUs p hU))) hF5.size) fun k hk => by injection hk with hk; subst hk; exact ⟨Nat.le_trans (Nat.le_trans hB (Nat.le_of_lt (hUs p hU))) (Nat.le_succ _), rfl⟩) fun j hj => .inr (by omega)
/-- What a Put, or a Cut, that may be, does. -/
theorem chg_ok {w w' : World} {B f : Nat} {ls : List Root} {r : Nat} {ok : Bool} {op : List Ext → List Ext} {e : Ending} {q : Root} (h : Chg w B f ls (r : Int) ok op e w') (hq : ls[r]? = some q) (hok : ok = true) :
    ∃ q', e = .returned (.tuple #[.int .i64 (ls.length : Int), .int .i64 0]) ∧ More w w' B f ls q (op q.2.list) q' := by
  have hr : rootAt ls (r : Int) = some q := by rw [rootAt_nat]; exact hq
  rcases h with ⟨h1, _⟩ | ⟨q1, q', h1, _, h3, h4⟩
  · rw [hr, hok] at h1
    exact absurd rfl h1
  · rw [hr] at h1
    injection h1 with h1
    subst h1
    exact ⟨q', h3, h4⟩
/-- A tree more. -/
structure Gdo (w w' : World) (B : Nat) (U : Nat → Prop) (n f : Nat) (uv : Value) (u : List Nat) (ls : List Root) (v : List Nat) (q' : Root) : Prop where
  gm : Gm w' B U n f uv u (ls ++ [q'])
  shw : Shw n (ls ++ [q']) u ls.length v
  old : ∀ k x, Shw n ls u k x → Shw n (ls ++ [q']) u k x
  ty : Ty FoT w w'
  bel : Below B w w'
  maps : ∀ (i : Nat) (es : Array MapEntry) (c : Nat), w.heap[i]? = some (Obj.map es c) → w'.heap[i]? = some (Obj.map es c)
theorem gdo_of {w w' : World} {B n f : Nat} {U : Nat → Prop} {uv : Value} {u : List Nat} {ls : List Root} {r : Nat} {v : List Nat} {ch : Chn} {o : BOp} {q q' : Root} {l : List Ext} (hG : Gm w B U n f uv u ls) (hM : More w w' B f ls q l q') (hs : Shw n ls u r v) (hc : Cho n u ch o) (hq : ls[r]? = some q) (hf : ls.length < 3000)
    (hl : l = if ch.kind = 2 then cutL q.2.list ch.x.off ch.x.len else putL q.2.list ch.x) : Gdo w w' B U n f uv u ls (apv v o) q' := by
  obtain ⟨h1, h2, h3⟩ := shw_do hs hG.gd hf hc hq (hM.list.trans hl)
  exact ⟨⟨own_ty hM.ty fot_u64 hG.row, hM.fo, h2, hG.out⟩, h1, h3, hM.ty, hM.below, hM.maps⟩
theorem Gdo.back {w w1 w' : World} {B n f : Nat} {U : Nat → Prop} {uv : Value} {u : List Nat} {ls : List Root} {v : List Nat} {q' : Root} (h : Gdo w1 w' B U n f uv u ls v q') (hb : Below w.heap.size w w1) (hB : B ≤ w.heap.size) : Gdo w w' B U n f uv u ls v q' :=
  ⟨h.gm, h.shw, h.old, (Ty.ofBelow hb).trans h.ty, (hb.mono hB).trans h.bel, fun i es c hi => h.maps i es c ((hb.block i (Array.getElem?_eq_some_iff.1 hi).1).trans hi)⟩
set_option maxRecDepth 100000 in
set_option maxHeartbeats 1000000 in
theorem gdo_ (B n f p off : Nat) (t : TypeId) (cs : Array Value) (U : Nat → Prop) (uv : Value) (u : List Nat) (ls : List Root) (hp : Blk w p t cs) (hG : Gm w B U n f uv u ls) (hc : cs[off + 1]? = some (.pointer (some ⟨f, 0, none⟩))) (ht : ¬ FoT t) (hB : B ≤ w.heap.size)
    (r : Nat) (v : List Nat) (hs : Shw n ls u r v) (ch : Chn) (o : BOp) (hch : Cho n u ch o) (hf : ls.length < 3000) :
    Calls Try.prog 34 #[.pointer (some ⟨p, off, none⟩), .int .i64 (r : Int), .agg (cva ch)] w fun e w' => ∃ q', e = .returned (.int .i64 (ls.length : Int)) ∧ Gdo w w' B U n f uv u ls (apv v o) q' := by
  have hq0 := Blk.new w 79 (cva ch) rfl
  have hb0 : Below w.heap.size w (w.alloc (.cells (cva ch) 79)) := (Below.refl _ _).alloc (Nat.le_refl _) _
  obtain ⟨q, hq, -⟩ := id hs
  obtain ⟨hrg, hrn⟩ := hch.range
  have hmay := hch.may hG.gd.few_units
  obtain ⟨w1, hw1⟩ : ∃ w1, w.alloc (.cells (cva ch) 79) = w1 := ⟨_, rfl⟩
  rw [hw1] at hq0 hb0
  have hm := may_len hmay
  have fo : I64 ch.x.off := by unfold I64; omega
  have fl : I64 ch.x.len := by unfold I64; omega
  have fx : Fit ch.x := fit_of hmay
  have hp1 := hp.keep hb0
  have hG1 := hG.below hb0
  have c1 := hp1.cell hc
  have k0 := hq0.cell (j := 0) (u := .int .i64 ch.kind) rfl
  have k1 := hq0.cell (j := 1) (u := .int .i64 ch.x.off) rfl
  have k2 := hq0.cell (j := 2) (u := .int .i64 ch.x.len) rfl
  have k3 := hq0.cell (j := 3) (u := .int .i64 ch.x.phys) rfl
  have k4 := hq0.cell (j := 4) (u := .int .i64 ch.x.birth) rfl
  simp only [cva] at hw1
  by_cases hk : ch.kind = 2
  · have hcut := cutF_ w1.drew B f ls (hG1.drewN 1).fo (Nat.le_trans hB hb0.size) (by omega) (r : Int) ch.x.off ch.x.len fo fl
    have Hk := Lib.hid hk
    have hk0 : w1.cell? ⟨w.heap.size, 0, none⟩ = some (.int .i64 2) := by rw [k0, hk]
    clear k0 hk
    go_enter Try.func34, Try.ntmps34
    go_wp2_with fail
    go_region_held3 (fun w' => w'.cell? ⟨w.heap.size, 1, none⟩ = some (.int .i64 ch.x.off) ∧ w'.cell? ⟨w.heap.size, 2, none⟩ = some (.int .i64 ch.x.len) ∧ w'.cell? ⟨p, off + 1, none⟩ = some (.pointer (some ⟨f, 0, none⟩)))
      (first | go_keep | exact ⟨k1, k2, c1⟩ | exact ⟨hq4.cell rfl, hq4.cell rfl, hp4.cell hc⟩)
      (first
        | (go_at_call 50; refine hcut.mono ?_
           intro e w4 hC
           obtain ⟨q', rfl, hM⟩ := chg_ok hC hq hrg
           have hq4 := hM.ty.block _ _ _ hq0 fot_change
           have hp4 := hM.ty.block _ _ _ hp1 ht))
    clear hC hcut c1 k1 k2 k3 k4
    go_wp2
    go_ret
    exact ⟨q', rfl, (gdo_of hG1 (hM.back (below_drewN (Below.refl _ _) 1) (Nat.le_trans hB hb0.size)) hs hch hq hf (by rw [if_pos Hk.out])).back hb0 hB⟩
  · have hput := putF_ w1.drew B f ls (hG1.drewN 1).fo (Nat.le_trans hB hb0.size) (by omega) (r : Int) ch.x fx
    have Hk := Lib.hid hk
    have hkd : (ch.kind == 2) = false := by simp [hk]
    clear hk
    go_enter Try.func34, Try.ntmps34
    go_wp2_with fail
    go_region_held3 (fun w' => w'.cell? ⟨w.heap.size, 1, none⟩ = some (.int .i64 ch.x.off) ∧ w'.cell? ⟨w.heap.size, 2, none⟩ = some (.int .i64 ch.x.len) ∧ w'.cell? ⟨w.heap.size, 3, none⟩ = some (.int .i64 ch.x.phys) ∧ w'.cell? ⟨w.heap.size, 4, none⟩ = some (.int .i64 ch.x.birth) ∧ w'.cell? ⟨p, off + 1, none⟩ = some (.pointer (some ⟨f, 0, none⟩)))
      (first | go_keep | exact ⟨k1, k2, k3, k4, c1⟩ | exact ⟨hq4.cell rfl, hq4.cell rfl, hq4.cell rfl, hq4.cell rfl, hp4.cell hc⟩)
      (first
        | (go_at_call 51; refine hput.mono ?_
           intro e w4 hC
           obtain ⟨q', rfl, hM⟩ := chg_ok hC hq hmay
           have hq4 := hM.ty.block _ _ _ hq0 fot_change
           have hp4 := hM.ty.block _ _ _ hp1 ht))
    clear hC hput c1 k0 k1 k2 k3 k4
    go_wp2
    go_ret
    exact ⟨q', rfl, (gdo_of hG1 (hM.back (below_drewN (Below.refl _ _) 1) (Nat.le_trans hB hb0.size)) hs hch hq hf (by rw [if_neg Hk.out])).back hb0 hB⟩
/-- What a tree shows, in a row of its own. -/
def AnsV (w w' : World) (e : Ending) (v : List Nat) : Prop := ∃ A m c, e = .returned (.slice A m c) ∧ GotN w' w.heap.size A m c v ∧ Below w.heap.size w w'
set_option maxRecDepth 100000 in
set_option maxHeartbeats 1000000 in
theorem show_ (B n f p off : Nat) (t : TypeId) (cs : Array Value) (U : Nat → Prop) (uv : Value) (u : List Nat) (ls : List Root) (hp : Blk w p t cs) (hG : Gm w B U n f uv u ls) (hc0 : cs[off]? = some (.int .i64 (n : Int))) (hc1 : cs[off + 1]? = some (.pointer (some ⟨f, 0, none⟩))) (hc2 : cs[off + 2]? = some uv)
    (r : Nat) (v : List Nat) (hs : Shw n ls u r v) :
    Calls Try.prog 28 #[.pointer (some ⟨p, off, none⟩), .int .i64 (r : Int)] w fun e w' => AnsV w w' e v := by
  obtain ⟨q, hq, hv⟩ := id hs
  have hmost := hG.gd.most
  have hfu := hG.gd.few_units
  have c0 := hp.cell hc0
  have c1 := hp.cell hc1
  have c2 := hp.cell hc2
  have hqm := List.mem_of_getElem? hq
  have hr := hG.gd.right q hqm
  have hin := hG.gd.in_ q hqm
  have hend := hin.ends hr
  have hvb : vwB q.2.list (n : Int) = true := by simp [vwB, hr, hend]; omega
  have Hve := Lib.hid (show vwE q.2.list (n : Int) = 0 by unfold vwE; rw [hvb]; rfl)
  have Hvl := Lib.hid (show vwL q.2.list (n : Int) u = v by unfold vwL; rw [hvb, hv]; rfl)
  have hrow := hG.row
  have hlow := hG.gd.low
  obtain ⟨UA, uc, rfl, hu1, hu2, hu3⟩ := own_form hrow
  generalize hul : u.length = ul at *
  have hlist := listF_ w B f ls hG.fo (r : Int) q (by rw [rootAt_nat]; exact hq)
  have hroot : rootAt ls (r : Int) = some q := by rw [rootAt_nat]; exact hq
  clear hul hqm hr hin hend hvb hv hq
  go_enter Try.func28, Try.ntmps28
  go_wp2_with fail
  refine hlist.mono ?_
  rintro e w2 ⟨A2, m2, k2, rfl, hL2, hb2⟩
  go_wp2_with fail
  have hp2 := hp.keep hb2
  have d0 := hp2.cell hc0
  have d2 := hp2.cell hc2
  have hns : Ns w2 UA ul u := no_ns (own_keep hrow hb2) hlow
  have hmm := hL2.le
  have hview := view_ w2.drew A2 m2 k2 q.2.list (n : Int) UA ul uc u (hL2.es.below (below_drewN (Below.refl _ _) 1)) hmm (by unfold I64; omega) (hns.drewN 1) (by omega)
  go_region_held3 (fun w' => w'.cell? ⟨p, off, none⟩ = some (.int .i64 (n : Int)) ∧ w'.cell? ⟨p, off + 2, none⟩ = some (.slice UA ul uc))
    (first | go_keep | exact ⟨d0, d2⟩ | exact ⟨hp4.cell hc0, hp4.cell hc2⟩)
    (first
      | (go_at_call 47; refine hview.mono ?_
         rintro e w4 ⟨A4, m4, k4, rfl, hG4, hb4⟩
         have hp4 := hp2.keep (Blo.below_undrew hb4)))
  rw [Hvl.out] at hG4
  have hB4 : Below w.heap.size w w4 := below_step hb2 (Blo.below_undrew hb4) (Nat.le_refl _)
  have hG5 : GotN w4 w.heap.size A4 m4 k4 v := ⟨own_mono hG4.own hb2.size, hG4.low⟩
  clear hview hlist hns hG4 hb4 hL2
  go_wp2
  go_ret
  exact ⟨A4, m4, k4, rfl, hG5, hB4⟩
/-- What a Put that may not be does. -/
theorem chg_bad {w w' : World} {B f : Nat} {ls : List Root} {r : Nat} {ok : Bool} {op : List Ext → List Ext} {e : Ending} {q : Root} (h : Chg w B f ls (r : Int) ok op e w') (hq : ls[r]? = some q) (hok : ok = false) :
    e = .returned (.tuple #[.int .i64 0, .int .i64 1]) ∧ Below w.heap.size w w' := by
  have hr : rootAt ls (r : Int) = some q := by rw [rootAt_nat]; exact hq
  rcases h with ⟨_, h2, h3⟩ | ⟨q1, q', h1, h2, _, _⟩
  · rw [hr, hok] at h2
    exact ⟨h2, h3⟩
  · rw [hok] at h2; cases h2
/-- A tree that shows a volume, of the empty one. -/
structure Pla (w w' : World) (B : Nat) (U : Nat → Prop) (n f p off : Nat) (t : TypeId) (cs : Array Value) (uv' : Value) (u : List Nat) (ls ls' : List Root) (r : Nat) (v : List Nat) : Prop where
  blk : Blk w' p t (cs.setIfInBounds (off + 2) uv')
  gm : Gm w' B (gr U w w') n f uv' (u ++ v) ls'
  shw : Shw n ls' (u ++ v) r v
  old : ∀ k x, Shw n ls u k x → Shw n ls' (u ++ v) k x
  fr : Fr B U w w'
  few : ls'.length ≤ ls.length + 1
  spare : (u ++ v).length + 1024 ≤ 1024 * ls'.length
  zero : ls'[0]? = some (none, .nil)
theorem pla_of {w w4 w5 : World} {B m f p off ul : Nat} {t : TypeId} {cs : Array Value} {U : Nat → Prop} {uv4 : Value} {u v : List Nat} {ls : List Root} {n5 e5 : Int} (hp4 : Blk w4 p t (cs.setIfInBounds (off + 2) uv4)) (hG4 : Gm w4 B (gr U w.drew w4) m f uv4 (u ++ v) ls) (hF4 : Fr B U w.drew w4) (hfot : ¬ FoT t)
    (hC : Chg w4 B f ls 0 (⟨0, (m : Int), (ul : Int), 0⟩ : Ext).may (fun l => putL l ⟨0, (m : Int), (ul : Int), 0⟩) (.returned (.tuple #[.int .i64 n5, .int .i64 e5])) w5) (h0 : ls[0]? = some (none, .nil)) (hsp : ul + 1024 ≤ 1024 * ls.length) (hf : ls.length < 3000) (hn : v.length = m) (hul : u.length = ul) (hBw : B ≤ w.heap.size) (hg : Gd m ls u) :
    ∃ (ls' : List Root) (r : Nat), n5 = (r : Int) ∧ Pla w w5 B U m f p off t cs uv4 u ls ls' r v := by
  have hmost := hG4.gd.most
  have hs4 : w.heap.size ≤ w4.heap.size := hF4.size
  have hF4' : Fr B U w w4 := hF4.undrew
  have hC0 : Chg w4 B f ls ((0 : Nat) : Int) (⟨0, (m : Int), (ul : Int), 0⟩ : Ext).may (fun l => putL l ⟨0, (m : Int), (ul : Int), 0⟩) (.returned (.tuple #[.int .i64 n5, .int .i64 e5])) w5 := hC
  by_cases hm0 : m = 0
  · have hv0 : v = [] := List.eq_nil_of_length_eq_zero (by omega)
    subst hv0 hm0
    obtain ⟨e, hb⟩ := chg_bad hC0 h0 (by simp [Ext.may, rangeB])
    simp only [Ending.returned.injEq, Value.tuple.injEq, Array.mk.injEq, List.cons.injEq, Value.int.injEq, true_and, and_true] at e
    refine ⟨ls, 0, e.1, ⟨hp4.keep hb, ?_, ?_, fun k x hk => ?_, ?_, Nat.le_succ _, ?_, h0⟩⟩
    · exact (hG4.below hb).sub fun k hk hu => hu.imp id fun q => ⟨q.1, Nat.lt_of_lt_of_le q.2 hb.size⟩
    · exact ⟨_, h0, rfl⟩
    · exact hk.units hg []
    · exact hF4'.then (U' := fun _ => False) (Fr.ofBelow hb (Nat.le_trans hBw hs4)) fun j hj => hj.elim
    · simp only [List.append_nil]; omega
  · have hmay : (⟨0, (m : Int), (ul : Int), 0⟩ : Ext).may = true := may_of (by have := hG4.gd.few_units; rw [List.length_append] at this; simp only; omega)
    obtain ⟨q', e, hM⟩ := chg_ok hC0 h0 hmay
    simp only [Ending.returned.injEq, Value.tuple.injEq, Array.mk.injEq, List.cons.injEq, Value.int.injEq, true_and, and_true] at e
    obtain ⟨p1, p2, p3⟩ := shw_plant (q' := q') hG4.gd hf hn (by omega) (by rw [hM.list, hul]; rfl)
    refine ⟨ls ++ [q'], ls.length, e.1, ⟨hM.ty.block _ _ _ hp4 hfot, ?_, p1, fun k x hk => p3 k x (hk.units hg v), ?_, by simp, ?_, by rw [List.getElem?_append_left hG4.gd.least]; exact h0⟩⟩
    · refine Gm.sub (U := gr U w.drew w4) ⟨own_ty hM.ty fot_u64 hG4.row, hM.fo, p2, hG4.out⟩ fun k hk hu => hu.imp id fun q => ⟨q.1, Nat.lt_of_lt_of_le q.2 hM.below.size⟩
    · exact hF4'.then (U' := fun _ => False) (Fr.ty hM.ty hM.below hM.maps) fun j hj => hj.elim
    · simp only [List.length_append, List.length_singleton]; omega
set_option maxRecDepth 100000 in
set_option maxHeartbeats 1000000 in
theorem plant_ (B n f p off : Nat) (t : TypeId) (cs : Array Value) (U : Nat → Prop) (uv : Value) (u : List Nat) (ls : List Root) (hp : Blk w p t cs) (hG : Gm w B U n f uv u ls) (hc1 : cs[off + 1]? = some (.pointer (some ⟨f, 0, none⟩))) (hc2 : cs[off + 2]? = some uv) (ht : t ≠ 48 ∧ t ≠ 106 ∧ t ≠ 103 ∧ t ≠ 126) (hB : B ≤ p) (hU : U p)
    (h0 : ls[0]? = some (none, .nil)) (hsp : u.length + 1024 ≤ 1024 * ls.length) (hf : ls.length < 3000) (A : Option Addr) (m c : Nat) (v : List Nat) (hv : Ns w A m v) (hA : A = none → m = 0) (hn : v.length = n) :
    Calls Try.prog 71 #[.pointer (some ⟨p, off, none⟩), .slice A m c] w fun e w' => ∃ uv' ls' r, e = .returned (.int .i64 (r : Nat)) ∧ Pla w w' B U n f p off t cs uv' u ls ls' r v := by
  have hmost := hG.gd.most
  have hfu := hG.gd.few_units
  have hml := hv.len
  have hm1024 : m ≤ 1024 := by omega
  have hfot : ¬ FoT t := by unfold FoT; rintro (e | e) <;> simp_all
  have c1 := hp.cell hc1
  have hlay := lay_ w.drew B n f p off t cs U uv u ls hp (hG.drewN 1) hc2 ht hB hU A m c v (hv.drewN 1) hA hm1024 (by simp only [List.length_append]; omega)
  have hmn : m = n := by omega
  subst hmn
  have Hml := Lib.hid hml
  have Hn := Lib.hid hn
  generalize hul : u.length = ul at *
  have Hul := Lib.hid hul
  clear hml hn hul
  have hcs1 : ∀ x, (cs.setIfInBounds (off + 2) x)[off + 1]? = some (.pointer (some ⟨f, 0, none⟩)) := fun x => by rw [Array.getElem?_setIfInBounds_ne (by omega)]; exact hc1
  have hBw : B ≤ w.heap.size := Nat.le_trans hB (Nat.le_of_lt hp.lt)
  have fx : Fit ⟨0, (m : Int), (ul : Int), 0⟩ := ⟨⟨by simp only; omega, by simp only; omega⟩, ⟨by simp only; omega, by simp only; omega⟩, ⟨by simp only; omega, by simp only; omega⟩, ⟨by simp only; omega, by simp only; omega⟩⟩
  go_enter Try.func71, Try.ntmps71
  go_wp2_with fail
  go_region_held3 (fun w' => w'.cell? ⟨p, off + 1, none⟩ = some (.pointer (some ⟨f, 0, none⟩)))
    (first | go_keep | exact c1 | exact hp4.cell (hcs1 _) | exact hp5.cell (hcs1 _))
    (first
      | (go_at_call 57; refine hlay.mono ?_
         rintro e w4 ⟨uv4, rfl, hp4, hG4, hF4⟩
         have hput := putF_ w4 B f ls hG4.fo (Nat.le_trans hBw hF4.size) (by omega) (0 : Int) ⟨0, (m : Int), (ul : Int), 0⟩ fx)
      | (go_at_call 51; refine hput.mono ?_
         intro e w5 hC
         obtain ⟨n5, e5, rfl⟩ := hC.form
         have hp5 : Blk w5 p t (cs.setIfInBounds (off + 2) uv4) := by
           rcases hC with ⟨_, _, hb⟩ | ⟨q1, q', _, _, _, hM⟩
           · exact hp4.keep hb
           · exact hM.ty.block _ _ _ hp4 hfot))
  obtain ⟨ls', r5, rfl, hP⟩ := pla_of hp4 hG4 hF4 hfot hC h0 hsp hf Hn.out Hul.out hBw hG.gd
  clear hC hput hlay hG4
  go_wp2
  go_ret
  exact ⟨uv4, ls', r5, rfl, hP⟩
end
end Sha
end Go.Proofs.Ytfcfffilfmbpeaa
