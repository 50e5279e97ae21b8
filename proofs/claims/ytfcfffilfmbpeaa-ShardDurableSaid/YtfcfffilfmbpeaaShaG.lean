/- Layer 12: ground on the heap: frames; bare, lay. -/
import Derived.Test.YtfcfffilfmbpeaaShaM
set_option linter.all false
namespace Go.Proofs.Ytfcfffilfmbpeaa
open Go.RowKit
namespace Sha
open Blo (vol fun_ GotN AnsN I64 Dat FitB)

/-! ### frames -/
/-- Below B nothing was turned; nor was any block of cells, but those of U and of a forest's types. -/
structure Fr (B : Nat) (U : Nat → Prop) (w w' : World) : Prop where
  bel : Below B w w'
  blk : ∀ i t cs, Blk w i t cs → ¬ U i → ¬ FoT t → Blk w' i t cs
  maps : ∀ (i : Nat) (es : Array MapEntry) (c : Nat), ¬ U i → w.heap[i]? = some (Obj.map es c) → w'.heap[i]? = some (Obj.map es c)
/-- U, and what is new. -/
def gr (U : Nat → Prop) (w w' : World) : Nat → Prop := fun k => U k ∨ (w.heap.size ≤ k ∧ k < w'.heap.size)
theorem Fr.refl (B : Nat) (U : Nat → Prop) (w : World) : Fr B U w w := ⟨Below.refl _ _, fun _ _ _ h _ _ => h, fun _ _ _ _ h => h⟩
theorem Fr.ofBelow {B : Nat} {U : Nat → Prop} {w w' : World} (h : Below w.heap.size w w') (hB : B ≤ w.heap.size) : Fr B U w w' := ⟨h.mono hB, fun _ _ _ k _ _ => k.keep h, fun i _ _ _ hi => (h.block i (Array.getElem?_eq_some_iff.1 hi).1).trans hi⟩
theorem Fr.trans {B : Nat} {U : Nat → Prop} {a b c : World} (h : Fr B U a b) (k : Fr B (gr U a b) b c) : Fr B U a c :=
  ⟨h.bel.trans k.bel, fun i t cs hi hu ht => k.blk i t cs (h.blk i t cs hi hu ht) (fun e => by
    rcases e with e | ⟨e, _⟩
    · exact hu e
    · exact absurd hi.lt (by omega)) ht, fun i es c hu hi => k.maps i es c (fun e => by
    have := (Array.getElem?_eq_some_iff.1 hi).1
    rcases e with e | ⟨e, _⟩
    · exact hu e
    · omega) (h.maps i es c hu hi)⟩
theorem Fr.sub {B : Nat} {U U' : Nat → Prop} {w w' : World} (h : Fr B U w w') (hu : ∀ k, k < w.heap.size → U k → U' k) : Fr B U' w w' :=
  ⟨h.bel, fun i t cs hi hn ht => h.blk i t cs hi (fun e => hn (hu i hi.lt e)) ht, fun i es c hn hi => h.maps i es c (fun e => hn (hu i (Array.getElem?_eq_some_iff.1 hi).1 e)) hi⟩
/-- Another frame behind it, whose blocks are U's, or new. -/
theorem Fr.then {B : Nat} {U U' : Nat → Prop} {a b c : World} (h : Fr B U a b) (k : Fr B U' b c) (hu : ∀ j, U' j → U j ∨ a.heap.size ≤ j) : Fr B U a c :=
  ⟨h.bel.trans k.bel, fun i t cs hi hn ht => k.blk i t cs (h.blk i t cs hi hn ht) (fun e => by
    rcases hu i e with e | e
    · exact hn e
    · exact absurd hi.lt (by omega)) ht, fun i es c hn hi => k.maps i es c (fun e => by
    have := (Array.getElem?_eq_some_iff.1 hi).1
    rcases hu i e with e | e
    · exact hn e
    · omega) (h.maps i es c hn hi)⟩
theorem Fr.ty {B : Nat} {U : Nat → Prop} {w w' : World} (h : Ty FoT w w') (hb : Below B w w') (hm : ∀ (i : Nat) (es : Array MapEntry) (c : Nat), w.heap[i]? = some (Obj.map es c) → w'.heap[i]? = some (Obj.map es c)) : Fr B U w w' := ⟨hb, fun i t cs hi _ ht => h.block i t cs hi ht, fun i es c _ hi => hm i es c hi⟩
theorem Fr.grown {B : Nat} {U : Nat → Prop} {w w' : World} {row : Option Nat} (h : w.grownBy w' row) (hB : B ≤ w.heap.size) (hr : ∀ k, row = some k → B ≤ k ∧ U k) : Fr B U w w' :=
  ⟨grown_below h hB (fun k hk => (hr k hk).1), fun i t cs hi hn _ => hi.grown h (fun e => hn (hr i e.symm).2), fun i es c hn hi => (h.block i (Array.getElem?_eq_some_iff.1 hi).1 (fun e => hn (hr i e.symm).2)).trans hi⟩
theorem Fr.set {B : Nat} {U : Nat → Prop} {w : World} (p o : Nat) (u : Value) (hB : B ≤ p) (hp : p < w.heap.size) (hU : U p) : Fr B U w (w.setCell ⟨p, o, none⟩ u) :=
  Fr.grown (grown_setCell _ _ _) (Nat.le_trans hB (Nat.le_of_lt hp)) fun k hk => by injection hk with hk; subst hk; exact ⟨hB, hU⟩
theorem Fr.size {B : Nat} {U : Nat → Prop} {w w' : World} (h : Fr B U w w') : w.heap.size ≤ w'.heap.size := h.bel.size
theorem Fr.undrew {B : Nat} {U : Nat → Prop} {w w' : World} (h : Fr B U w.drew w') : Fr B U w w' := ⟨Blo.below_undrew h.bel, h.blk, h.maps⟩
theorem Fr.drewR {B : Nat} {U : Nat → Prop} {w w' : World} (h : Fr B U w w') : Fr B U w w'.drew := ⟨below_drewN h.bel 1, h.blk, h.maps⟩
theorem own_mono {w : World} {B B' : Nat} {e : TypeId} {sz n : Nat} {v : Value} {xs : List Value} (h : w.ownsRow B e sz v n xs) (hb : B' ≤ B) : w.ownsRow B' e sz v n xs := by
  refine ⟨h.1, ?_⟩
  rcases h.2 with h2 | ⟨g, cap, cur, hv, hg, r⟩
  · exact .inl h2
  · exact .inr ⟨g, cap, cur, hv, by omega, r⟩
/-- A row's block. -/
theorem own_blk2 {w : World} {B : Nat} {e : TypeId} {sz n : Nat} {v : Value} {xs : List Value} (h : w.ownsRow B e sz v n xs) {g : Nat} (hg : v.ownBlock = some g) : ∃ cs, Blk w g e cs := by
  rcases h.2 with ⟨rfl, _⟩ | ⟨q, cap, cur, rfl, _, hh, _⟩
  · cases hg
  · simp only [Value.ownBlock, Option.some.injEq] at hg
    subst hg
    exact ⟨cur, hh⟩
/-- An owned row in a frame. -/
theorem own_fr {w w' : World} {B B' : Nat} {U : Nat → Prop} {e : TypeId} {sz n : Nat} {v : Value} {xs : List Value} (h : w.ownsRow B e sz v n xs) (hf : Fr B' U w w') (hu : ∀ g, v.ownBlock = some g → ¬ U g) (ht : ¬ FoT e) : w'.ownsRow B e sz v n xs := by
  refine ⟨h.1, ?_⟩
  rcases h.2 with h2 | ⟨g, cap, cur, rfl, hg, hh, r⟩
  · exact .inl h2
  · exact .inr ⟨g, cap, cur, rfl, hg, hf.blk g e cur hh (hu g rfl) ht, r⟩
theorem fot_u64 : ¬ FoT 48 := by unfold FoT; decide
theorem fot_ground : ¬ FoT 61 := by unfold FoT; decide
theorem fot_shard : ¬ FoT 65 := by unfold FoT; decide
theorem fot_change : ¬ FoT 79 := by unfold FoT; decide
theorem fot_int : ¬ FoT 3 := by unfold FoT; decide
theorem Fo.grown {w w' : World} {B f g : Nat} {ls : List Root} {t : TypeId} {cs : Array Value} (h : Fo w B f ls) (hg : w.grownBy w' (some g)) (hb : Blk w g t cs) (h1 : t ≠ 106) (h2 : t ≠ 103) (h3 : t ≠ 126) : Fo w' B f ls :=
  h.ty (T := fun x => x = t) (Ty.ofGrown hg fun k hk => by injection hk with hk; subst hk; exact ⟨t, cs, hb, rfl⟩) (fun e => h1 e.symm) (fun e => h2 e.symm) (fun e => h3 e.symm)
theorem Fo.grownN {w w' : World} {B f : Nat} {ls : List Root} {row : Option Nat} {t : TypeId} (h : Fo w B f ls) (hg : w.grownBy w' row) (hb : ∀ g, row = some g → ∃ cs, Blk w g t cs) (h1 : t ≠ 106) (h2 : t ≠ 103) (h3 : t ≠ 126) : Fo w' B f ls :=
  h.ty (T := fun x => x = t) (Ty.ofGrown hg fun k hk => by obtain ⟨cs, hb⟩ := hb k hk; exact ⟨t, cs, hb, rfl⟩) (fun e => h1 e.symm) (fun e => h2 e.symm) (fun e => h3 e.symm)
theorem Fo.base {w : World} {B B' f : Nat} {ls : List Root} (h : Fo w B f ls) (hb : B' ≤ B) : Fo w B' f ls := by
  obtain ⟨v, h1, h2⟩ := h.row
  exact ⟨⟨v, h1, own_mono h2 hb⟩, h.trees, Nat.le_trans hb h.new, h.least, h.few⟩

/-! ### ground -/
/-- What lies in the heap beside the ground's own three cells: its forest, its units. -/
structure Gm (w : World) (B : Nat) (U : Nat → Prop) (n f : Nat) (uv : Value) (u : List Nat) (ls : List Root) : Prop where
  row : w.ownsRow B 48 1 uv u.length (nvs u)
  fo : Fo w B f ls
  gd : Gd n ls u
  out : ∀ g, uv.ownBlock = some g → U g
theorem Gm.below {w w' : World} {B n f : Nat} {U : Nat → Prop} {uv : Value} {u : List Nat} {ls : List Root} (h : Gm w B U n f uv u ls) (hb : Below w.heap.size w w') : Gm w' B U n f uv u ls := ⟨own_keep h.row hb, h.fo.below hb, h.gd, h.out⟩
theorem Gm.drewN {w : World} {B n f : Nat} {U : Nat → Prop} {uv : Value} {u : List Nat} {ls : List Root} (h : Gm w B U n f uv u ls) (k : Nat) : Gm (w.drewN k) B U n f uv u ls := h.below (below_drewN (Below.refl _ _) k)
theorem Gm.sub {w : World} {B n f : Nat} {U U' : Nat → Prop} {uv : Value} {u : List Nat} {ls : List Root} (h : Gm w B U n f uv u ls) (hu : ∀ k, k < w.heap.size → U k → U' k) : Gm w B U' n f uv u ls := ⟨h.row, h.fo, h.gd, fun g hg => hu g (h.row.lt g hg).2 (h.out g hg)⟩
theorem Gm.base {w : World} {B B' n f : Nat} {U : Nat → Prop} {uv : Value} {u : List Nat} {ls : List Root} (h : Gm w B U n f uv u ls) (hb : B' ≤ B) : Gm w B' U n f uv u ls := ⟨own_mono h.row hb, Fo.base h.fo hb, h.gd, h.out⟩
/-- One block more is written, of a type of its own. -/
theorem Gm.grown {w w' : World} {B n f g : Nat} {U : Nat → Prop} {uv : Value} {u : List Nat} {ls : List Root} {t : TypeId} {cs : Array Value} (h : Gm w B U n f uv u ls) (hg : w.grownBy w' (some g)) (hb : Blk w g t cs) (h0 : uv.ownBlock ≠ some g) (h1 : t ≠ 106) (h2 : t ≠ 103) (h3 : t ≠ 126) : Gm w' B U n f uv u ls :=
  ⟨own_grown h.row hg (fun k hk e => h0 (by rw [hk]; exact e)), Fo.grown h.fo hg hb h1 h2 h3, h.gd, h.out⟩
theorem Gm.apart {w : World} {B n f g : Nat} {U : Nat → Prop} {uv : Value} {u : List Nat} {ls : List Root} {t : TypeId} {cs : Array Value} (h : Gm w B U n f uv u ls) (hb : Blk w g t cs) (ht : t ≠ 48) : uv.ownBlock ≠ some g := fun e => by
  obtain ⟨cs', k⟩ := own_blk2 h.row e
  exact ht (blk_type hb k)
theorem gset3 (w : World) (b o0 o1 o2 : Nat) (u0 u1 u2 : Value) : w.grownBy (((w.setCell ⟨b, o0, none⟩ u0).setCell ⟨b, o1, none⟩ u1).setCell ⟨b, o2, none⟩ u2) (some b) := by
  have h := fun (W : World) (o : Nat) (u : Value) => grown_setCell W ⟨b, o, none⟩ u
  exact World.grownBy.trans (World.grownBy.trans (h _ _ _) (h _ _ _)) (h _ _ _)
theorem results_3g {fn : Func} {W : World} {s q : Nat} {a b c : Value} {tmps : Array Value} (h : fn.results = #[.cell s 61]) (h2 : tmps.getD s undef = .pointer (some ⟨q, 0, none⟩)) (h0 : W.cell? ⟨q, 0, none⟩ = some a) (h1 : W.cell? ⟨q, 1, none⟩ = some b) (h3 : W.cell? ⟨q, 2, none⟩ = some c) :
    (results fn tmps).run Try.prog W = .ok (.agg #[a, b, c]) W := by
  have h2' : tmps[s]?.getD undef = .pointer (some ⟨q, 0, none⟩) := by simpa using h2
  simp [results, h, h2', go_sem, h0, h1, h3]
section
variable (w : World)
set_option maxRecDepth 100000 in
set_option maxHeartbeats 1000000 in
theorem bare_ (n : Nat) (hn : n ≤ 1024) : Calls Try.prog 25 #[.int .i64 (n : Int)] w fun e w' => ∃ f, e = .returned (.agg #[.int .i64 (n : Int), .pointer (some ⟨f, 0, none⟩), .slice none 0 0]) ∧ Gm w' w.heap.size (fun _ => False) n f (.slice none 0 0) [] [(none, .nil)] ∧ Below w.heap.size w w' := by
  have hn0 := Blk.new w 61 #[.int .i64 0, .pointer none, .slice none 0 0] rfl
  have hB : Below w.heap.size w (w.alloc (.cells #[.int .i64 0, .pointer none, .slice none 0 0] 61)) := (Below.refl _ _).alloc (Nat.le_refl _) _
  go_enter Try.func25, Try.ntmps25
  go_wp2_with fail
  refine (newF_ _).mono ?_
  rintro e w2 ⟨f, rfl, hf, hb⟩
  have k0 := hn0.keep hb
  have hB2 := below_step hB hb (Nat.le_refl _)
  have hf2 := Fo.base hf hB.size
  clear hf hb hn0 hB
  have d0 := k0.cell (j := 0) rfl
  have d1 := k0.cell (j := 1) rfl
  have d2 := k0.cell (j := 2) rfl
  have f0 := k0.free 0
  have f1 := k0.free 1
  have f2 := k0.free 2
  have hk3 := ((k0.setCell 0 (.int .i64 (n : Int))).setCell 1 (.pointer (some ⟨f, 0, none⟩))).setCell 2 (.slice none 0 0)
  have hg3 : w2.grownBy (((w2.setCell ⟨w.heap.size, 0, none⟩ (.int .i64 (n : Int))).setCell ⟨w.heap.size, 1, none⟩ (.pointer (some ⟨f, 0, none⟩))).setCell ⟨w.heap.size, 2, none⟩ (.slice none 0 0)) (some w.heap.size) := gset3 _ _ _ _ _ _ _ _
  have e0 := hk3.cell (j := 0) rfl
  have e1 := hk3.cell (j := 1) rfl
  have e2 := hk3.cell (j := 2) rfl
  go_wp2
  have hb3 := hB2.grown hg3 hB2.size (fun k hk => by injection hk with hk; omega)
  have hf3 := Fo.grown hf2 hg3 k0 (by decide) (by decide) (by decide)
  refine bodyPost_ret (results_3g rfl rfl e0 e1 e2) rfl ?_
  exact ⟨f, rfl, ⟨own_nil _ _ _ _, hf3, ⟨hn, by simp, by simp, by simp, fun q hq => by rw [List.mem_singleton.1 hq]; exact inU_nil _ _, fun q hq => by rw [List.mem_singleton.1 hq]; rfl, by simp⟩, fun g hg => by cases hg⟩, hb3⟩
set_option maxRecDepth 100000 in
set_option maxHeartbeats 1000000 in
/-- Units laid. -/
theorem lay_ (B n f p o : Nat) (t : TypeId) (cs : Array Value) (U : Nat → Prop) (uv : Value) (u : List Nat) (ls : List Root) (hp : Blk w p t cs) (hG : Gm w B U n f uv u ls) (hc : cs[o + 2]? = some uv) (ht : t ≠ 48 ∧ t ≠ 106 ∧ t ≠ 103 ∧ t ≠ 126) (hB : B ≤ p) (hU : U p)
    (A : Option Addr) (m c : Nat) (d : List Nat) (hd : Ns w A m d) (hA : A = none → m = 0) (hm : m ≤ 1024) (hl : (u ++ d).length ≤ 1024 * ls.length) :
    Calls Try.prog 57 #[.pointer (some ⟨p, o, none⟩), .slice A m c] w fun e w' => ∃ uv', e = .returned (.int .i64 (u.length : Int)) ∧ Blk w' p t (cs.setIfInBounds (o + 2) uv') ∧ Gm w' B (gr U w w') n f uv' (u ++ d) ls ∧ Fr B U w w' := by
  obtain ⟨i0, hi0, hz0, hz1, hz2⟩ := u64_info
  have Hz := Lib.hid hz2
  clear hz2
  have hfew := hG.gd.few_units
  have hBs : B ≤ w.heap.size := Nat.le_trans hB (Nat.le_of_lt hp.lt)
  have c2 := hp.cell hc
  obtain ⟨UA, uc, rfl, hu1, hu2, hu3⟩ := own_form hG.row
  have hap := hG.apart hp ht.1
  have Hlow := Lib.hid hd.2
  have hmd := hd.len
  have hrow := hG.row
  generalize hul : u.length = ul at *
  have Hul := Lib.hid hul
  have hml : m = d.length := hmd
  have Hml := Lib.hid hml
  clear hmd hml hul
  go_enter Try.func57, Try.ntmps57
  go_wp2_with (first
    | (at_builtin
       go_must (refine wpList_app _ rfl (.tmp 15) (.tmp 16) _ rfl B 48 i0 _ 1 8 Try.underlying29 hi0 hz0 hz1 Hz.out rfl Nat.one_pos _ ul _ rfl hrow A m c (nvs d) rfl hA hd.1 (nvs_one d) (by unfold maxLen; omega) (by omega) hBs ?_)
       intro v3 w3 hown3 hg3 hat3
       obtain ⟨A3, c3, rfl, -, -, -⟩ := own_form hown3
       have kp3 := hp.grown hg3 (fun e => hap e.symm)
       have d3 := kp3.cell hc
       have f3 := kp3.free (o + 2)))
  have hg3' : w.grownBy w3 (Value.slice UA ul uc).ownBlock := hg3
  have hat3' : (Value.slice A3 (ul + m) c3).ownBlock = (Value.slice UA ul uc).ownBlock ∨ (Value.slice A3 (ul + m) c3).ownBlock = some w.heap.size := hat3
  clear hg3 hat3
  go_ret
  have hne3 : ∀ k, (Value.slice A3 (ul + m) c3).ownBlock = some k → some k ≠ some p := fun k hk e => by
    injection e with e
    subst e
    obtain ⟨cs', k'⟩ := own_blk2 hown3 hk
    exact ht.1 (blk_type kp3 k')
  have hs3 : (w3.setCell ⟨p, o + 2, none⟩ (.slice A3 (ul + m) c3)).heap.size = w3.heap.size := by simp [World.setCell]
  refine ⟨_, rfl, kp3.setCell _ _, ⟨?_, ?_, hG.gd.units d Hlow.out hl, fun g hg => ?_⟩, ?_⟩
  · have := own_grown hown3 (grown_setCell w3 ⟨p, o + 2, none⟩ (.slice A3 (ul + m) c3)) hne3
    rw [← nvs_app, ← Hul.out, Hml.out, ← List.length_append] at this
    rw [← Hul.out, Hml.out, ← List.length_append]
    exact this
  · exact Fo.grown (Fo.grownN hG.fo hg3' (fun g hg => own_blk2 hrow hg) (by decide) (by decide) (by decide)) (grown_setCell _ _ _) kp3 ht.2.1 ht.2.2.1 ht.2.2.2
  · rcases hat3' with e | e
    · exact .inl (hG.out g (by rw [← e]; exact hg))
    · rw [hg] at e
      injection e with e
      have := (hown3.lt g hg).2
      exact .inr ⟨by omega, by rw [hs3]; exact this⟩
  · exact (Fr.grown hg3' hBs (fun k hk => ⟨(hrow.lt k hk).1, hG.out k hk⟩)).then (Fr.set p _ _ hB kp3.lt hU) fun j hj => .inl hj
end
end Sha
end Go.Proofs.Ytfcfffilfmbpeaa
