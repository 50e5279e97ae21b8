/- Layer 12: clean: the volumes that are kept, laid on bare ground. -/
import Derived.Test.YtfcfffilfmbpeaaShaB
set_option linter.all false
namespace Go.Proofs.Ytfcfffilfmbpeaa
open Go.RowKit Go.Maps
namespace Sha
open Blo (vol fun_ GotN AnsN Dat FitB)

abbrev gra (n f : Nat) (uv : Value) : Array Value := #[.int .i64 (n : Int), .pointer (some ⟨f, 0, none⟩), uv]
section
variable (w : World)
set_option maxRecDepth 100000 in
set_option maxHeartbeats 1000000 in
theorem move_ (B B' b n f f' q V : Nat) (U U' : Nat → Prop) (cs : Array Value) (uv uv' : Value) (u u' : List Nat) (ls ls' : List Root) (hV : Blk w V 23 #[.pointer (some ⟨b, 0, none⟩)])
    (hb : Blk w b 65 cs) (hG : Gm w B U n f uv u ls) (h1 : cs[1]? = some (.int .i64 (n : Int))) (h2 : cs[1 + 1]? = some (.pointer (some ⟨f, 0, none⟩))) (h3 : cs[1 + 2]? = some uv)
    (hq : Blk w q 61 (gra n f' uv')) (hG' : Gm w B' U' n f' uv' u' ls') (hB : B' ≤ q) (hU : U' q) (h0 : ls'[0]? = some (none, .nil)) (hsp : u'.length + 1024 ≤ 1024 * ls'.length) (hf : ls'.length < 3000)
    (r : Nat) (v : List Nat) (hs : Shw n ls u r v) :
    Calls Try.prog 70 #[.int .i64 (r : Int), .pointer (some ⟨q, 0, none⟩), .pointer (some ⟨V, 0, none⟩)] w fun e w' => ∃ uv'' ls'' r', e = .returned (.int .i64 (r' : Nat)) ∧ Blk w' q 61 (gra n f' uv'') ∧ Gm w' B' (gr U' w w') n f' uv'' (u' ++ v) ls'' ∧ Shw n ls'' (u' ++ v) r' v ∧ (∀ k x, Shw n ls' u' k x → Shw n ls'' (u' ++ v) k x) ∧ Fr B' U' w w' ∧ ls''.length ≤ ls'.length + 1 ∧ (u' ++ v).length + 1024 ≤ 1024 * ls''.length ∧ ls''[0]? = some (none, .nil) := by
  have c0 := hV.cell (j := 0) (u := .pointer (some ⟨b, 0, none⟩)) rfl
  have hsh := show_ w B n f b 1 65 cs U uv u ls hb hG h1 h2 h3 r v hs
  have hvl := hs.length
  have Hvl := Lib.hid hvl
  clear hvl
  go_enter Try.func70, Try.ntmps70
  go_wp2_with fail
  refine hsh.mono ?_
  rintro e w2 ⟨A2, m2, c2, rfl, hG2, hb2⟩
  obtain ⟨g1, g2, g3⟩ := hG2.bounds
  have hq2 := hq.keep hb2
  have hGq := hG'.below hb2
  have hpl := plant_ w2 B' n f' q 0 61 (gra n f' uv') U' uv' u' ls' hq2 hGq rfl rfl ⟨by decide, by decide, by decide, by decide⟩ hB hU h0 hsp hf A2 m2 c2 v hG2.ns (fun h => (g3 h).1) Hvl.out
  clear hsh
  go_wp2_with fail
  refine hpl.mono ?_
  rintro e w3 ⟨uv'', ls'', r', rfl, hP⟩
  go_wp2
  go_ret
  have hs2 : w.heap.size ≤ w2.heap.size := hb2.size
  exact ⟨uv'', ls'', r', rfl, hP.blk, hP.gm.sub (fun k hk hu => hu.imp id fun z => ⟨Nat.le_trans hs2 z.1, z.2⟩), hP.shw, hP.old, (Fr.ofBelow hb2 (Nat.le_trans hB (Nat.le_of_lt hq.lt))).then hP.fr (fun j hj => .inl hj), hP.few, hP.spare, hP.zero⟩
end
/-- All blocks of cells are as they were, but shards. -/
abbrev TyS : World → World → Prop := Ty fun t => t = 65
/-- While the volumes are laid anew: W0 is the world at the beginning. -/
structure Cl (W0 w : World) (B b : Nat) (U : Nat → Prop) (s : SS) (k : CS) (q f' : Nat) (U' : Nat → Prop) (uv' : Value) (u' : List Nat) (ls' : List Root) (rn rd m : Nat) (fr : List (Int × Nat)) : Prop where
  ty : TyS W0 w
  frm : Fr B U W0 w
  blk : Blk w b 65 (sha b s { k with now := rn, sure := rd })
  map : Mp w k.mb k.roots.length (rootOf (fr ++ k.roots.drop fr.length))
  fresh : Blk w q 61 (gra s.n f' uv')
  gm : Gm w W0.heap.size U' s.n f' uv' u' ls'
  qU : U' q
  qlow : W0.heap.size ≤ q
  ulow : ∀ j, U' j → W0.heap.size ≤ j ∧ j < w.heap.size
  zero : ls'[0]? = some (none, .nil)
  spare : u'.length + 1024 ≤ 1024 * ls'.length
  few : ls'.length ≤ m
  snaps : All2 (fun (q : Int × Nat) (p : Int × List Nat) => q.1 = p.1 ∧ Shw s.n ls' u' q.2 p.2) fr (s.snaps.take fr.length)
theorem own_tyS {w w' : World} (h : TyS w w') {B : Nat} {e : TypeId} (he : e ≠ 65) {sz : Nat} {v : Value} {n : Nat} {xs : List Value} (hr : w.ownsRow B e sz v n xs) : w'.ownsRow B e sz v n xs := own_ty h he hr
theorem Gm.tyS {w w' : World} (h : TyS w w') {B n f : Nat} {U : Nat → Prop} {uv : Value} {u : List Nat} {ls : List Root} (hG : Gm w B U n f uv u ls) : Gm w' B U n f uv u ls := ⟨own_tyS h (by decide) hG.row, hG.fo.ty h (by decide) (by decide) (by decide), hG.gd, hG.out⟩
theorem tyS_below {W0 w w' : World} (h : TyS W0 w) (hb : Below W0.heap.size w w') : TyS W0 w' :=
  ⟨hb.os.trans h.os, hb.tape.trans h.tape, hb.output.trans h.output, Nat.le_trans h.size hb.size, fun i t cs hi ht => (h.block i t cs hi ht).below hb hi.lt⟩
theorem tyS_set {W0 w : World} (h : TyS W0 w) {b : Nat} {cs : Array Value} (hb : Blk w b 65 cs) (o : Nat) (u : Value) : TyS W0 (w.setCell ⟨b, o, none⟩ u) := h.trans (Ty.set (T := fun t => t = 65) hb rfl o u)
theorem tyS_map {W0 w w' : World} {mb k : Nat} {c : Int → Option Int} (h : TyS W0 w) (hm : Mp w mb k c) (hg : w.grownBy w' (some mb)) : TyS W0 w' := h.trans ((hm.ty hg).wide fun _ q => q.elim)
theorem Cl.drew {W0 w : World} {B b : Nat} {U : Nat → Prop} {s : SS} {k : CS} {q f' : Nat} {U' : Nat → Prop} {uv' : Value} {u' : List Nat} {ls' : List Root} {rn rd m : Nat} {fr : List (Int × Nat)} (h : Cl W0 w B b U s k q f' U' uv' u' ls' rn rd m fr) : Cl W0 w.drew B b U s k q f' U' uv' u' ls' rn rd m fr :=
  { ty := h.ty.drewR, frm := h.frm.drewR, blk := h.blk, map := h.map.below (below_drewN (Below.refl _ _) 1), fresh := h.fresh, gm := h.gm.drewN 1, qU := h.qU, qlow := h.qlow, ulow := h.ulow, zero := h.zero, spare := h.spare, few := h.few, snaps := h.snaps }
/-- One volume more is laid. -/
def Mvd (W0 w' : World) (B b : Nat) (U : Nat → Prop) (s : SS) (k : CS) (q f' : Nat) (rn rd m : Nat) (fr : List (Int × Nat)) (v : List Nat) (rd' : Nat → (Nat → List Nat → Prop) → Prop) (e : Ending) : Prop :=
  ∃ U'' uv'' u'' ls'' r', e = .returned (.int .i64 (r' : Nat)) ∧ Cl W0 w' B b U s k q f' U'' uv'' u'' ls'' rn rd (m + 1) fr ∧ Shw s.n ls'' u'' r' v ∧ rd' r' (Shw s.n ls'' u'')
theorem Cl.move {W0 w : World} {B b : Nat} {U : Nat → Prop} {s : SS} {k : CS} {q f' V : Nat} {U' : Nat → Prop} {uv' : Value} {u' : List Nat} {ls' : List Root} {rn rd m : Nat} {fr : List (Int × Nat)} (h : Cl W0 w B b U s k q f' U' uv' u' ls' rn rd m fr) (hm : m ≤ 100)
    (hR : ShR W0 B U b s k) (hV : Blk W0 V 23 #[.pointer (some ⟨b, 0, none⟩)]) (hB : B ≤ W0.heap.size) (r : Nat) (v : List Nat) (hs : Shw s.n k.ls k.u r v) (keep : Nat → List Nat → Prop) (hk : ∀ x y, keep x y → Shw s.n ls' u' x y) :
    Calls Try.prog 70 #[.int .i64 (r : Int), .pointer (some ⟨q, 0, none⟩), .pointer (some ⟨V, 0, none⟩)] w fun e w' => Mvd W0 w' B b U s k q f' rn rd m fr v (fun _ S => ∀ x y, keep x y → S x y) e := by
  have hfew := h.few
  refine (move_ w B W0.heap.size b s.n k.f f' q V U U' _ k.uv uv' k.u u' k.ls ls' (h.ty.block _ _ _ hV (by decide)) h.blk (hR.gm.tyS h.ty) rfl rfl rfl h.fresh h.gm h.qlow h.qU h.zero h.spare (by omega) r v hs).mono ?_
  rintro e w' ⟨uv'', ls'', r', rfl, k1, k2, k3, k4, k5, k6, k7, k8⟩
  have hsz := k5.size
  have hbl : b < W0.heap.size := (hR.ulow b hR.ub).2
  have hmb : k.mb < W0.heap.size := (hR.ulow k.mb hR.mout).2
  refine ⟨gr U' w w', uv'', u' ++ v, ls'', r', rfl, ?_, k3, fun x y hxy => k4 x y (hk x y hxy)⟩
  exact {
    ty := tyS_below h.ty k5.bel
    frm := ⟨h.frm.bel.trans (k5.bel.mono hB), fun i t cs hi hu ht => (h.frm.blk i t cs hi hu ht).below k5.bel hi.lt, fun i es c hu hi => (k5.bel.block i (Array.getElem?_eq_some_iff.1 hi).1).trans (h.frm.maps i es c hu hi)⟩
    blk := h.blk.below k5.bel hbl
    map := by
      obtain ⟨D, ⟨es, clock, e1, r⟩, r2⟩ := h.map.own
      exact ⟨D, ⟨es, clock, (k5.bel.block k.mb hmb).trans e1, r⟩, r2⟩
    fresh := k1
    gm := k2
    qU := .inl h.qU
    qlow := h.qlow
    ulow := fun j hj => by
      rcases hj with hj | hj
      · have := h.ulow j hj; omega
      · have := h.frm.size; have := h.ty.size; omega
    zero := k8
    spare := k7
    few := by omega
    snaps := h.snaps.imp fun a c q => ⟨q.1, k4 _ _ q.2⟩ }
/-- The shard's own cells that tell of the trees, turned. -/
theorem Cl.setNow {W0 w : World} {B b : Nat} {U : Nat → Prop} {s : SS} {k : CS} {q f' : Nat} {U' : Nat → Prop} {uv' : Value} {u' : List Nat} {ls' : List Root} {rn rd m : Nat} {fr : List (Int × Nat)} (h : Cl W0 w B b U s k q f' U' uv' u' ls' rn rd m fr) (hB : B ≤ b) (hb : U b) (r : Nat) : Cl W0 (w.setCell ⟨b, 4, none⟩ (.int .i64 (r : Int))) B b U s k q f' U' uv' u' ls' r rd m fr := by
  have hg := grown_setCell w ⟨b, 4, none⟩ (.int .i64 (r : Int))
  exact { ty := tyS_set h.ty h.blk _ _, frm := h.frm.then (Fr.set b 4 _ hB h.blk.lt hb) fun j hj => .inl hj, blk := h.blk.setCell 4 (.int .i64 (r : Int)), map := h.map.kept hg (fun e => by injection e with e; exact h.map.apart h.blk e.symm), fresh := h.fresh.grown hg (fun e => by injection e with e; subst e; exact absurd (blk_type h.fresh h.blk) (by decide)), gm := h.gm.grown hg h.blk (h.gm.apart h.blk (by decide)) (by decide) (by decide) (by decide), qU := h.qU, qlow := h.qlow, ulow := fun j hj => by have := h.ulow j hj; simpa [World.setCell] using this, zero := h.zero, spare := h.spare, few := h.few, snaps := h.snaps }
theorem Cl.setSure {W0 w : World} {B b : Nat} {U : Nat → Prop} {s : SS} {k : CS} {q f' : Nat} {U' : Nat → Prop} {uv' : Value} {u' : List Nat} {ls' : List Root} {rn rd m : Nat} {fr : List (Int × Nat)} (h : Cl W0 w B b U s k q f' U' uv' u' ls' rn rd m fr) (hB : B ≤ b) (hb : U b) (r : Nat) : Cl W0 (w.setCell ⟨b, 5, none⟩ (.int .i64 (r : Int))) B b U s k q f' U' uv' u' ls' rn r m fr := by
  have hg := grown_setCell w ⟨b, 5, none⟩ (.int .i64 (r : Int))
  exact { ty := tyS_set h.ty h.blk _ _, frm := h.frm.then (Fr.set b 5 _ hB h.blk.lt hb) fun j hj => .inl hj, blk := h.blk.setCell 5 (.int .i64 (r : Int)), map := h.map.kept hg (fun e => by injection e with e; exact h.map.apart h.blk e.symm), fresh := h.fresh.grown hg (fun e => by injection e with e; subst e; exact absurd (blk_type h.fresh h.blk) (by decide)), gm := h.gm.grown hg h.blk (h.gm.apart h.blk (by decide)) (by decide) (by decide) (by decide), qU := h.qU, qlow := h.qlow, ulow := fun j hj => by have := h.ulow j hj; simpa [World.setCell] using this, zero := h.zero, spare := h.spare, few := h.few, snaps := h.snaps }
theorem root_mid {l1 l2 : List (Int × Nat)} {id : Int} {x : Nat} (h : ∀ p ∈ l1, p.1 ≠ id) : rootOf (l1 ++ (id, x) :: l2) id = some (x : Int) := by
  unfold rootOf
  rw [List.find?_append, List.find?_eq_none.2 (fun p hp => by simpa using h p hp), Option.none_or, List.find?_cons_of_pos (by simp)]
  rfl
theorem root_other {l1 l2 : List (Int × Nat)} {id j : Int} {x y : Nat} (h : j ≠ id) : rootOf (l1 ++ (id, x) :: l2) j = rootOf (l1 ++ (id, y) :: l2) j := by
  unfold rootOf
  rw [List.find?_append, List.find?_append, List.find?_cons_of_neg (by simpa using fun e => h e.symm), List.find?_cons_of_neg (by simpa using fun e => h e.symm)]
def ClAt (W0 wr : World) (B b : Nat) (U : Nat → Prop) (s : SS) (k : CS) (q f' : Nat) (j : Nat) : Prop := ∃ U' uv' u' ls' rn fr, Cl W0 wr B b U s k q f' U' uv' u' ls' rn rn (2 + j) fr ∧ fr.length = j ∧ Shw s.n ls' u' rn s.now
/-- One snapshot more. -/
theorem Cl.next {W0 w w' : World} {B b : Nat} {U : Nat → Prop} {s : SS} {k : CS} {q f' : Nat} {U' : Nat → Prop} {uv' : Value} {u' : List Nat} {ls' : List Root} {rn rd m : Nat} {fr : List (Int × Nat)} {id : Int} {r : Nat} {v : List Nat} (h : Cl W0 w B b U s k q f' U' uv' u' ls' rn rd m fr)
    (hm : Mp w' k.mb k.roots.length (rootOf ((fr ++ [(id, r)]) ++ k.roots.drop (fr ++ [(id, r)]).length))) (hg : w.grownBy w' (some k.mb)) (hB : B ≤ W0.heap.size) (hmb : k.mb < W0.heap.size ∧ B ≤ k.mb ∧ U k.mb) (hv : s.snaps[fr.length]? = some (id, v)) (hs : Shw s.n ls' u' r v) : Cl W0 w' B b U s k q f' U' uv' u' ls' rn rd m (fr ++ [(id, r)]) := by
  have hz : w.heap.size ≤ w'.heap.size := hg.size
  have hz0 : W0.heap.size ≤ w.heap.size := h.ty.size
  refine { ty := tyS_map h.ty h.map hg, frm := h.frm.then (U' := fun j => j = k.mb) (Fr.grown hg (Nat.le_trans hB hz0) fun j hj => by injection hj with hj; subst hj; exact ⟨hmb.2.1, rfl⟩) fun j hj => .inl (by rw [hj]; exact hmb.2.2), blk := h.blk.grown hg (fun e => by injection e with e; exact h.map.apart h.blk e), map := hm, fresh := h.fresh.grown hg (fun e => by injection e with e; exact h.map.apart h.fresh e), gm := ⟨own_grown h.gm.row hg (fun j hj e => by injection e with e; subst e; exact h.map.apartO h.gm.row hj), h.gm.fo.ty (h.map.ty hg) (by simp) (by simp) (by simp), h.gm.gd, h.gm.out⟩, qU := h.qU, qlow := h.qlow, ulow := fun j hj => by have := h.ulow j hj; omega, zero := h.zero, spare := h.spare, few := h.few, snaps := ?_ }
  have hl := (List.getElem?_eq_some_iff.1 hv).1
  have e : s.snaps.take (fr ++ [(id, r)]).length = s.snaps.take fr.length ++ [(id, v)] := by
    rw [List.length_append, List.length_singleton, List.take_add_one, hv]; rfl
  rw [e]
  exact h.snaps.snoc ⟨rfl, hs⟩
section
variable (w : World)
/-- The map, where the tree of one snapshot is put. -/
theorem Cl.put {W0 w : World} {B b : Nat} {U : Nat → Prop} {s : SS} {k : CS} {q f' : Nat} {U' : Nat → Prop} {uv' : Value} {u' : List Nat} {ls' : List Root} {rn rd m : Nat} {fr : List (Int × Nat)} {id : Int} {r0 r j : Nat} {v : List Nat} (h : Cl W0 w B b U s k q f' U' uv' u' ls' rn rd m fr)
    (hroot : k.roots[j]? = some (id, r0)) (hnot : ∀ p ∈ fr, p.1 ≠ id) (hid : I64 id) (hfl : fr.length = j) (hv : s.snaps[j]? = some (id, v)) (hs : Shw s.n ls' u' r v) (hB : B ≤ W0.heap.size) (hmb : k.mb < W0.heap.size ∧ B ≤ k.mb ∧ U k.mb) (hk : k.roots.length ≤ 1000) :
    ∃ w', (Instr.mapUpdate 63 (.map (some k.mb)) (.int .i64 id) (.int .i64 (r : Int))).run Try.prog w = .ok () w' ∧ Cl W0 w' B b U s k q f' U' uv' u' ls' rn rd m (fr ++ [(id, r)]) ∧ w.grownBy w' (some k.mb) := by
  have hdrop : k.roots.drop fr.length = (id, r0) :: k.roots.drop (j + 1) := by rw [hfl]; exact Blo.drop_of hroot
  have hdrop2 : (fr ++ [(id, r)]) ++ k.roots.drop (fr ++ [(id, r)]).length = fr ++ (id, r) :: k.roots.drop (j + 1) := by simp [hfl]
  have hr : I64 (r : Int) := by
    have h1 := hs.lt
    have h2 := h.gm.gd.few
    unfold I64; omega
  have hst := h.map.store (c' := rootOf ((fr ++ [(id, r)]) ++ k.roots.drop (fr ++ [(id, r)]).length)) hk hid hr (fun i => by
    rw [hdrop2, hdrop]
    by_cases e : i = id
    · subst e; rw [if_pos rfl, root_mid hnot]
    · rw [if_neg e]; exact root_other e)
  rw [hdrop, root_mid hnot] at hst
  obtain ⟨w', hrun, hm, hg⟩ := hst
  simp only [Option.isSome_some, if_true] at hm
  exact ⟨w', hrun, h.next hm hg hB hmb (by rw [hfl]; exact hv) hs, hg⟩
theorem Cl.done {w W0 wr w' : World} {B b : Nat} {U : Nat → Prop} {s : SS} {k : CS} {q f' : Nat} {U' : Nat → Prop} {uv' : Value} {u' : List Nat} {ls' : List Root} {rn m : Nat} {fr : List (Int × Nat)} (hC : Cl W0 wr B b U s k q f' U' uv' u' ls' rn rn m fr) (h0 : ShX W0 B U b s k) (hw : Below w.heap.size w W0) (hm : m ≤ 100) (hfl : fr.length = k.roots.length) (hs : Shw s.n ls' u' rn s.now) (ho : s.opn = []) (hns : s.now = s.sure) (hBw : B ≤ w.heap.size) (hUw : ∀ j, U j → j < w.heap.size)
    (hw' : ((wr.setCell ⟨b, 1, none⟩ (.int .i64 (s.n : Int))).setCell ⟨b, 2, none⟩ (.pointer (some ⟨f', 0, none⟩))).setCell ⟨b, 3, none⟩ uv' = w') : Sh w' B (gr U w w') b s ∧ Fr B U w w' := by
  have hblk := ((hC.blk.setCell 1 (.int .i64 (s.n : Int))).setCell 2 (.pointer (some ⟨f', 0, none⟩))).setCell 3 uv'
  have hg := gset3 wr b 1 2 3 (.int .i64 (s.n : Int)) (.pointer (some ⟨f', 0, none⟩)) uv'
  rw [hw'] at hblk hg
  have hsz := hg.size
  have hty := hC.ty
  have hz : W0.heap.size ≤ wr.heap.size := hty.size
  have hw0 : w.heap.size ≤ W0.heap.size := hw.size
  have hbU := h0.r.ub
  have hbl := (h0.r.ulow b hbU).2
  have hFr : Fr B U wr w' := Fr.grown hg (by omega) fun j hj => by injection hj with hj; subst hj; exact ⟨h0.r.base, hbU⟩
  have hF : Fr B U w w' := ((Fr.ofBelow hw hBw).then hC.frm fun j hj => .inl hj).then hFr fun j hj => .inl hj
  have hty' : TyS W0 w' := hty.trans (Ty.ofGrown hg fun j hj => by injection hj with hj; subst hj; exact ⟨_, _, hC.blk, rfl⟩)
  have hoc : k.oc = [] := by
    have := h0.r.ops
    rw [ho] at this
    cases hk : k.oc with
    | nil => rfl
    | cons a l => rw [hk] at this; cases this
  have hids : fr.map Prod.fst = k.roots.map Prod.fst := by
    have h1 := hC.snaps.map_eq (f := Prod.fst) (g := Prod.fst) fun _ _ q => q.1
    have h2 := h0.r.snaps.map_eq (f := Prod.fst) (g := Prod.fst) fun _ _ q => q.1
    rw [h1, h2, hfl, h0.r.snaps.length, List.take_of_length_le (Nat.le_refl _)]
  refine ⟨⟨{ k with f := f', uv := uv', u := u', ls := ls', now := rn, sure := rn, roots := fr }, ⟨hblk, ?_⟩, ?_⟩, hF⟩
  · exact {
      gm := ((hC.gm.grown hg hC.blk (hC.gm.apart hC.blk (by decide)) (by decide) (by decide) (by decide)).base (Nat.le_trans hBw hw0)).sub fun j hj hu => by
        have := hC.ulow j hu
        exact .inr ⟨by omega, hj⟩
      base := h0.r.base
      ub := .inl hbU
      ulow := fun j hj => by
        rcases hj with hj | hj
        · have h1 := hUw j hj
          have h2 := (h0.r.ulow j hj).1
          omega
        · omega
      spare := hC.spare
      zero := hC.zero
      now := hs
      sure := by rw [← hns]; exact hs
      orow := own_tyS hty' (by decide) h0.r.orow
      oout := fun g hg => .inl (h0.r.oout g hg)
      ops := by show All2 _ k.oc s.opn; rw [hoc, ho]; exact .nil
      rrow := by
        have := own_tyS hty' (by decide) h0.r.rrow
        rw [← hids, ← hfl] at this
        exact this
      rout := fun g hg => .inl (h0.r.rout g hg)
      map := by
        have := hC.map.kept hg (fun e => by injection e with e; exact hC.map.apart hC.blk e.symm)
        rw [hfl, List.drop_of_length_le (Nat.le_refl _), List.append_nil, ← hfl] at this
        exact this
      mout := .inl h0.r.mout
      snaps := by
        have := hC.snaps
        rw [hfl, h0.r.snaps.length, List.take_of_length_le (Nat.le_refl _)] at this
        exact this
      ok := h0.r.ok }
  · have := hC.few
    show ls'.length ≤ _
    omega
set_option maxRecDepth 100000 in
set_option maxHeartbeats 2000000 in
theorem clean_ (B b : Nat) (U : Nat → Prop) (s : SS) (k : CS) (h : ShX w B U b s k) (ho : s.opn = []) (hns : s.now = s.sure) :
    Calls Try.prog 53 #[.pointer (some ⟨b, 0, none⟩)] w fun e w' => e = .returned (.tuple #[]) ∧ Sh w' B (gr U w w') b s ∧ Fr B U w w' := by
  have hmost := h.r.ok.most
  have hsn : s.snaps.length ≤ 32 := h.r.ok.few2
  have hV0 := Blk.new w 23 #[.pointer (some ⟨b, 0, none⟩)] rfl
  have hb0 : Below w.heap.size w (w.alloc (.cells #[.pointer (some ⟨b, 0, none⟩)] 23)) := (Below.refl _ _).alloc (Nat.le_refl _) _
  have hs0 : (w.alloc (.cells #[.pointer (some ⟨b, 0, none⟩)] 23)).heap.size = w.heap.size + 1 := by simp
  obtain ⟨W0, hW0⟩ : ∃ W0, w.alloc (.cells #[.pointer (some ⟨b, 0, none⟩)] 23) = W0 := ⟨_, rfl⟩
  rw [hW0] at hV0 hb0 hs0
  have h0 := h.below hb0
  have c0 := hV0.cell (j := 0) (u := .pointer (some ⟨b, 0, none⟩)) rfl
  have c1 := h0.cell (j := 1) (u := .int .i64 (s.n : Int)) rfl
  go_enter Try.func53, Try.ntmps53
  go_wp2_with fail
  refine (bare_ W0 s.n hmost).mono ?_
  rintro e w2 ⟨f', rfl, hG2, hb2⟩
  have hq3 := Blk.new w2 61 #[.int .i64 0, .pointer none, .slice none 0 0] rfl
  have hb3 : Below w2.heap.size w2 (w2.alloc (.cells #[.int .i64 0, .pointer none, .slice none 0 0] 61)) := (Below.refl _ _).alloc (Nat.le_refl _) _
  have hB3 := below_step hb2 hb3 (Nat.le_refl _)
  have hG3 := hG2.below hb3
  have hs3 : (w2.alloc (.cells #[.int .i64 0, .pointer none, .slice none 0 0] 61)).heap.size = w2.heap.size + 1 := by simp
  obtain ⟨w3, hw3⟩ : ∃ w3, w2.alloc (.cells #[.int .i64 0, .pointer none, .slice none 0 0] 61) = w3 := ⟨_, rfl⟩
  rw [hw3] at hq3 hB3 hG3 hs3
  have d0 := hq3.cell (j := 0) (u := .int .i64 0) rfl
  have d1 := hq3.cell (j := 1) (u := .pointer none) rfl
  have d2 := hq3.cell (j := 2) (u := .slice none 0 0) rfl
  have f0 := hq3.free 0
  have f1 := hq3.free 1
  have f2 := hq3.free 2
  obtain ⟨w4, hw4⟩ : ∃ w4, ((w3.setCell ⟨w2.heap.size, 0, none⟩ (.int .i64 (s.n : Int))).setCell ⟨w2.heap.size, 1, none⟩ (.pointer (some ⟨f', 0, none⟩))).setCell ⟨w2.heap.size, 2, none⟩ (.slice none 0 0) = w4 := ⟨_, rfl⟩
  go_wp2
  have hk4 := ((hq3.setCell 0 (.int .i64 (s.n : Int))).setCell 1 (.pointer (some ⟨f', 0, none⟩))).setCell 2 (.slice none 0 0)
  have hg4 := gset3 w3 w2.heap.size 0 1 2 (.int .i64 (s.n : Int)) (.pointer (some ⟨f', 0, none⟩)) (.slice none 0 0)
  rw [hw4] at hk4 hg4
  have hs4 := hg4.size
  have hs2 := hb2.size
  have hBW : B ≤ W0.heap.size := Nat.le_trans h.r.base (Nat.le_of_lt (Nat.lt_of_lt_of_le h.blk.lt hb0.size))
  have hB4 : Below W0.heap.size W0 w4 := hB3.grown hg4 hB3.size (fun j hj => by injection hj with hj; omega)
  have hC : Cl W0 w4 B b U s k w2.heap.size f' (fun j => j = w2.heap.size) (.slice none 0 0) [] [(none, .nil)] k.now k.sure 1 [] :=
    { ty := Ty.ofBelow hB4, frm := Fr.ofBelow hB4 hBW, blk := h0.blk.keep hB4, map := by simpa using h0.r.map.below hB4, fresh := hk4
      gm := (hG3.grown hg4 hq3 (by simp [Value.ownBlock]) (by decide) (by decide) (by decide)).sub fun j _ hj => hj.elim
      qU := rfl, qlow := hs2, ulow := fun j hj => by subst hj; exact ⟨hs2, by omega⟩, zero := rfl, spare := by simp, few := by simp, snaps := .nil }
  clear hG2 hb2 hb3 hq3 hB3 hG3 hs3 hw3 d0 d1 d2 f0 f1 f2 hw4 hk4 hg4 hs4 hB4
  have hmv := hC.drew.move (V := w.heap.size) (by omega) h0.r hV0 hBW k.now s.now h.r.now (fun _ _ => False) (fun _ _ q => q.elim)
  have c4 : w4.cell? ⟨w.heap.size, 0, none⟩ = some (.pointer (some ⟨b, 0, none⟩)) := (hC.ty.block _ _ _ hV0 (by decide)).cell rfl
  have e4 := hC.blk.cell (j := 4) (u := .int .i64 (k.now : Int)) rfl
  have hbw := h.blk.lt
  refine wp_region_noPanic ?_
  refine wp_region_held_drew (S := fun w' => w'.cell? ⟨w.heap.size, 0, none⟩ = some (.pointer (some ⟨b, 0, none⟩))) (by kernel_rfl) c4 (fun _ => ?_)
  refine wpAnyH_take (i := 0) (oi := _) (v := ?_) rfl (by kernel_rfl) (by kernel_rfl) (by kernel_rfl) (fun _ _ _ h => h) (Or.inl ⟨by kernel_rfl, ?_⟩) c4 ?_
  rotate_left
  · (rintro w s0; go_simp; (first | done | rfl))
  try simp only [Act.put, List.getElem_toArray, List.getElem_cons_zero, List.getElem_cons_succ, List.setIfInBounds_toArray, List.set_cons_zero, List.set_cons_succ]
  refine wpAnyH_take (i := 1) (oi := _) (v := ?_) rfl (by kernel_rfl) (by kernel_rfl) (by kernel_rfl) (fun _ _ _ h => h) (Or.inl ⟨by kernel_rfl, ?_⟩) c4 ?_
  rotate_left
  · (rintro w s0; go_simp; (first | done | rfl))
  try simp only [Act.put, List.getElem_toArray, List.getElem_cons_zero, List.getElem_cons_succ, List.setIfInBounds_toArray, List.set_cons_zero, List.set_cons_succ]
  refine wpAnyH_take (i := 2) (oi := _) (v := ?_) rfl (by kernel_rfl) (by kernel_rfl) (by kernel_rfl) (fun _ _ _ h => h) (Or.inl ⟨by kernel_rfl, ?_⟩) c4 ?_
  rotate_left
  · (rintro w s0; go_simp; (first | done | rfl))
  try simp only [Act.put, List.getElem_toArray, List.getElem_cons_zero, List.getElem_cons_succ, List.setIfInBounds_toArray, List.set_cons_zero, List.set_cons_succ]
  refine wpAnyH_take (i := 3) (oi := _) (v := ?_) rfl (by kernel_rfl) (by kernel_rfl) (by kernel_rfl) (fun _ _ _ h => h) (Or.inl ⟨by kernel_rfl, ?_⟩) c4 ?_
  rotate_left
  · (rintro w s0; go_simp; (first | done | rfl))
  try simp only [Act.put, List.getElem_toArray, List.getElem_cons_zero, List.getElem_cons_succ, List.setIfInBounds_toArray, List.set_cons_zero, List.set_cons_succ]
  refine wpAnyH_take (i := 4) (oi := _) (v := ?_) rfl (by kernel_rfl) (by kernel_rfl) (by kernel_rfl) (fun _ _ _ h => h) (Or.inl ⟨by kernel_rfl, ?_⟩) c4 ?_
  rotate_left
  · (rintro w s0; go_simp; (first | done | rfl))
  try simp only [Act.put, List.getElem_toArray, List.getElem_cons_zero, List.getElem_cons_succ, List.setIfInBounds_toArray, List.set_cons_zero, List.set_cons_succ]
  refine wpAnyH_ready (rs := [5]) (by kernel_rfl) (by simp) (AllReadyH.cons (o := _) rfl (fun K hK => ?_) AllReadyH.nil)
  rw [if_pos (by kernel_rfl)]
  have e4' : w4.drew.cell? ⟨b, 4, none⟩ = some (.int .i64 (k.now : Int)) := e4
  go_simp
  refine hK.out _ _ c4 (fun _ => ?_)
  clear hK K
  try simp only [Act.put, List.getElem_toArray, List.getElem_cons_zero, List.getElem_cons_succ, List.setIfInBounds_toArray, List.set_cons_zero, List.set_cons_succ]
  refine wpAnyH_ready (rs := [6]) (by kernel_rfl) (by simp) (AllReadyH.cons (o := _) rfl (fun K hK => ?_) AllReadyH.nil)
  rw [if_pos (by kernel_rfl)]
  go_simp
  refine hmv.mono ?_
  rintro e w5 ⟨U5, uv5, u5, ls5, r5, rfl, hC5, hs5, hk5⟩
  have c5 : w5.cell? ⟨w.heap.size, 0, none⟩ = some (.pointer (some ⟨b, 0, none⟩)) := (hC5.ty.block _ _ _ hV0 (by decide)).cell rfl
  have e5 := hC5.blk.cell (j := 4) (u := .int .i64 (k.now : Int)) rfl
  have f5 := hC5.blk.free 4
  refine hK.out _ _ c5 (fun _ => ?_)
  clear hK K
  try simp only [Act.put, List.getElem_toArray, List.getElem_cons_zero, List.getElem_cons_succ, List.setIfInBounds_toArray, List.set_cons_zero, List.set_cons_succ]
  refine wpAnyH_take (i := 7) (oi := _) (v := ?_) rfl (by kernel_rfl) (by kernel_rfl) (by kernel_rfl) (fun _ _ _ h => h) (Or.inl ⟨by kernel_rfl, ?_⟩) c5 ?_
  rotate_left
  · (rintro w s0; go_simp; (first | done | rfl))
  try simp only [Act.put, List.getElem_toArray, List.getElem_cons_zero, List.getElem_cons_succ, List.setIfInBounds_toArray, List.set_cons_zero, List.set_cons_succ]
  refine wpAnyH_take (i := 8) (oi := _) (v := ?_) rfl (by kernel_rfl) (by kernel_rfl) (by kernel_rfl) (fun _ _ _ h => h) (Or.inl ⟨by kernel_rfl, ?_⟩) c5 ?_
  rotate_left
  · (rintro w s0; go_simp; (first | done | rfl))
  try simp only [Act.put, List.getElem_toArray, List.getElem_cons_zero, List.getElem_cons_succ, List.setIfInBounds_toArray, List.set_cons_zero, List.set_cons_succ]
  refine wpAnyH_ready (rs := [9]) (by kernel_rfl) (by simp) (AllReadyH.cons (o := _) rfl (fun K hK => ?_) AllReadyH.nil)
  rw [if_pos (by kernel_rfl)]
  have c6 : (w5.setCell ⟨b, 4, none⟩ (.int .i64 (r5 : Int))).cell? ⟨w.heap.size, 0, none⟩ = some (.pointer (some ⟨b, 0, none⟩)) := by rw [World.cell?_setCell_far _ ⟨b, 4, none⟩ ⟨w.heap.size, 0, none⟩ _ (by show b ≠ w.heap.size; omega)]; exact c5
  go_simp
  refine hK.out _ _ c6 (fun _ => ?_)
  clear hK K
  try simp only [Act.put, List.getElem_toArray, List.getElem_cons_zero, List.getElem_cons_succ, List.setIfInBounds_toArray, List.set_cons_zero, List.set_cons_succ]
  refine wpAnyH_done (by kernel_rfl) ?_ _
  refine NoPanic.normal ?_
  go_wp2_with fail
  have hC6 := hC5.setNow h.r.base h.r.ub r5
  clear hC hmv hC5 c5 e5 f5 e4' c4 e4 hk5
  generalize w5.setCell ⟨b, 4, none⟩ (.int .i64 (r5 : Int)) = w6 at *
  have hbw2 : ¬ b = w.heap.size := by omega
  have g4 := hC6.blk.cell (j := 4) (u := .int .i64 (r5 : Int)) rfl
  have gf5 := hC6.blk.free 5
  have g5 := hC6.blk.cell (j := 5) (u := .int .i64 (k.sure : Int)) rfl
  have c7 : (w6.setCell ⟨b, 5, none⟩ (.int .i64 (r5 : Int))).drew.cell? ⟨w.heap.size, 0, none⟩ = some (.pointer (some ⟨b, 0, none⟩)) := by show (w6.setCell ⟨b, 5, none⟩ (.int .i64 (r5 : Int))).cell? ⟨w.heap.size, 0, none⟩ = _; rw [World.cell?_setCell_far _ ⟨b, 5, none⟩ ⟨w.heap.size, 0, none⟩ _ (by show b ≠ w.heap.size; omega)]; exact c6
  have g7 : (w6.setCell ⟨b, 5, none⟩ (.int .i64 (r5 : Int))).drew.cell? ⟨b, 4, none⟩ = some (.int .i64 (r5 : Int)) := (hC6.blk.setCell 5 (.int .i64 (r5 : Int))).cell rfl
  go_region_held3 (fun w' => w'.cell? ⟨w.heap.size, 0, none⟩ = some (.pointer (some ⟨b, 0, none⟩)) ∧ w'.cell? ⟨b, 4, none⟩ = some (.int .i64 (r5 : Int)))
    (first | go_keep | exact ⟨c6, g4⟩ | exact ⟨c7, g7⟩)
    (fail)
  have hC7 := (hC6.setSure h.r.base h.r.ub r5).drew
  clear hC6 c6 g4 gf5 g7
  generalize (w6.setCell ⟨b, 5, none⟩ (.int .i64 (r5 : Int))).drew = w7 at *
  have hsl : k.roots.length = s.snaps.length := h.r.snaps.length
  obtain ⟨RA, rc, hrv, hr1, hr2, hr3⟩ := own_form h0.r.rrow
  have g8 : w7.cell? ⟨b, 8, none⟩ = some (.slice RA k.roots.length rc) := by rw [← hrv]; exact hC7.blk.cell rfl
  have hrow0 := h0.r.rrow
  rw [hrv] at hrow0
  have Hsl := Lib.hid hsl
  have hkl : k.roots.length ≤ 32 := by omega
  obtain ⟨nk, hnk⟩ : ∃ nk, k.roots.length = nk := ⟨_, rfl⟩
  rw [hnk] at g8 hrow0 hkl
  have Hnk := Lib.hid hnk
  clear hsl hnk hrv hr1 hr3
  have hAt : ClAt W0 w7 B b U s k w2.heap.size f' 0 := ⟨_, _, _, _, r5, [], hC7, rfl, hs5⟩
  clear hC7 hs5
  go_wp2_with fail
  go_loopw [34] (fun iv wr => ∃ j : Nat, j ≤ nk ∧ iv = .int .i64 (j : Int) ∧ ClAt W0 wr B b U s k w2.heap.size f' j) (fun iv _ => nk - (intOf iv).toNat)
  case atStart => exact ⟨0, Nat.zero_le _, rfl, hAt⟩
  case round =>
    obtain ⟨j, hj, rfl, hA⟩ := hrel
    by_cases hlt : j < nk
    · have hil : (j : Int) < (nk : Int) := by omega
      have hj0 : (0 : Int) ≤ (j : Int) := by omega
      obtain ⟨Uj, uvj, vj, lsj, rnj, frj, hC, hfl, hsj⟩ := hA
      have hjk : j < k.roots.length := by rw [Hnk.out]; exact hlt
      obtain ⟨⟨idj, rj⟩, hroot⟩ : ∃ q, k.roots[j]? = some q := ⟨_, List.getElem?_eq_getElem hjk⟩
      obtain ⟨⟨id2, vvj⟩, hsnap, hid2, hshj⟩ := h0.r.snaps.get hroot
      simp only at hid2 hshj
      subst hid2
      have hsm := List.mem_of_getElem? hsnap
      have hidr := (h0.r.ok.snaps _ hsm).2
      simp only at hidr
      have hidI : I64 idj := by unfold I64; omega
      have hdrop : k.roots.drop frj.length = (idj, rj) :: k.roots.drop (j + 1) := by rw [hfl]; exact Blo.drop_of hroot
      have hfst : frj.map Prod.fst = (k.roots.map Prod.fst).take j := by
        have h1 := hC.snaps.map_eq (f := Prod.fst) (g := Prod.fst) fun _ _ q => q.1
        have h2 := h0.r.snaps.map_eq (f := Prod.fst) (g := Prod.fst) fun _ _ q => q.1
        rw [h1, h2, List.map_take, hfl]
      have hnot : ∀ p ∈ frj, p.1 ≠ idj := fun p hp e => by
        have h2 := h0.r.snaps.map_eq (f := Prod.fst) (g := Prod.fst) fun _ _ q => q.1
        have hnd : (k.roots.map Prod.fst).Nodup := by rw [h2]; exact h0.r.ok.once
        have h3 : idj ∈ (k.roots.map Prod.fst).take j := by rw [← hfst, ← e]; exact List.mem_map_of_mem hp
        have h4 : (k.roots.map Prod.fst)[j]? = some idj := by rw [List.getElem?_map, hroot]; rfl
        obtain ⟨i, hi, hie⟩ := List.getElem_of_mem h3
        rw [List.length_take] at hi
        have hj4 := (List.getElem?_eq_some_iff.1 h4).1
        have h5 : (k.roots.map Prod.fst)[i]'(by omega) = (k.roots.map Prod.fst)[j]'hj4 := by
          rw [List.getElem_take] at hie
          rw [hie]
          exact ((List.getElem?_eq_some_iff.1 h4).2).symm
        have := (List.nodup_iff_pairwise_ne.1 hnd)
        have h6 := (List.pairwise_iff_getElem.1 this) i j (by omega) hj4 (by omega)
        exact h6 h5
      have hlook : (rootOf (frj ++ k.roots.drop frj.length) idj) = some (rj : Int) := by rw [hdrop]; exact root_mid hnot
      have hrun := hC.drew.map.look hidI
      rw [hlook] at hrun
      simp only [Option.getD_some] at hrun
      have hmv := hC.drew.move (V := w.heap.size) (by omega) h0.r hV0 hBW rj vvj hshj (fun x y => Shw s.n lsj vj x y) (fun _ _ q => q)
      obtain ⟨RB, ro, hRA, hx, hcell⟩ := (rd_own (own_tyS hC.ty (by decide) hrow0)).at_ hlt
      subst hRA
      have hcj : wr.cell? ⟨RB, ro + j, none⟩ = some (.int .i64 idj) := by
        rw [hcell]
        have h4 : (ivs (k.roots.map Prod.fst))[j]? = some (.int .i64 idj) := by unfold ivs; rw [List.getElem?_map, List.getElem?_map, hroot]; rfl
        exact (List.getElem?_eq_getElem hx).symm.trans h4
      have cV : wr.cell? ⟨w.heap.size, 0, none⟩ = some (.pointer (some ⟨b, 0, none⟩)) := (hC.ty.block _ _ _ hV0 (by decide)).cell rfl
      have c7 : wr.cell? ⟨b, 7, none⟩ = some (.map (some k.mb)) := hC.blk.cell rfl
      have hmbs : k.mb < W0.heap.size ∧ B ≤ k.mb ∧ U k.mb := ⟨(h0.r.ulow _ h0.r.mout).2, (h0.r.ulow _ h0.r.mout).1, h0.r.mout⟩
      clear hcell hx hsm hdrop hfst hlook
      go_wp2_with fail
      refine wp_region_noPanic ?_
      refine wp_region_held_drew (S := fun w' => w'.cell? ⟨w.heap.size, 0, none⟩ = some (.pointer (some ⟨b, 0, none⟩)) ∧ w'.cell? ⟨b, 7, none⟩ = some (.map (some k.mb))) (by kernel_rfl) ⟨cV, c7⟩ (fun _ => ?_)
      refine wpAnyH_take (i := 0) (oi := _) (v := ?_) rfl (by kernel_rfl) (by kernel_rfl) (by kernel_rfl) (fun _ _ _ h => h) (Or.inl ⟨by kernel_rfl, ?_⟩) ⟨cV, c7⟩ ?_
      rotate_left
      · (rintro w ⟨s0, s7⟩; go_simp; (first | done | rfl))
      try simp only [Act.put, List.getElem_toArray, List.getElem_cons_zero, List.getElem_cons_succ, List.setIfInBounds_toArray, List.set_cons_zero, List.set_cons_succ]
      refine wpAnyH_take (i := 1) (oi := _) (v := ?_) rfl (by kernel_rfl) (by kernel_rfl) (by kernel_rfl) (fun _ _ _ h => h) (Or.inl ⟨by kernel_rfl, ?_⟩) ⟨cV, c7⟩ ?_
      rotate_left
      · (rintro w ⟨s0, s7⟩; go_simp; (first | done | rfl))
      try simp only [Act.put, List.getElem_toArray, List.getElem_cons_zero, List.getElem_cons_succ, List.setIfInBounds_toArray, List.set_cons_zero, List.set_cons_succ]
      refine wpAnyH_take (i := 2) (oi := _) (v := ?_) rfl (by kernel_rfl) (by kernel_rfl) (by kernel_rfl) (fun _ _ _ h => h) (Or.inl ⟨by kernel_rfl, ?_⟩) ⟨cV, c7⟩ ?_
      rotate_left
      · (rintro w ⟨s0, s7⟩; go_simp; (first | done | rfl))
      try simp only [Act.put, List.getElem_toArray, List.getElem_cons_zero, List.getElem_cons_succ, List.setIfInBounds_toArray, List.set_cons_zero, List.set_cons_succ]
      refine wpAnyH_take (i := 3) (oi := _) (v := ?_) rfl (by kernel_rfl) (by kernel_rfl) (by kernel_rfl) (fun _ _ _ h => h) (Or.inl ⟨by kernel_rfl, ?_⟩) ⟨cV, c7⟩ ?_
      rotate_left
      · (rintro w ⟨s0, s7⟩; go_simp; (first | done | rfl))
      try simp only [Act.put, List.getElem_toArray, List.getElem_cons_zero, List.getElem_cons_succ, List.setIfInBounds_toArray, List.set_cons_zero, List.set_cons_succ]
      refine wpAnyH_take (i := 4) (oi := _) (v := ?_) rfl (by kernel_rfl) (by kernel_rfl) (by kernel_rfl) (fun _ _ _ h => h) (Or.inl ⟨by kernel_rfl, ?_⟩) ⟨cV, c7⟩ ?_
      rotate_left
      · (rintro w ⟨s0, s7⟩; go_simp; (first | done | rfl))
      try simp only [Act.put, List.getElem_toArray, List.getElem_cons_zero, List.getElem_cons_succ, List.setIfInBounds_toArray, List.set_cons_zero, List.set_cons_succ]
      refine wpAnyH_take (i := 5) (oi := _) (v := ?_) rfl (by kernel_rfl) (by kernel_rfl) (by kernel_rfl) (fun _ _ _ h => h) (Or.inl ⟨by kernel_rfl, ?_⟩) ⟨cV, c7⟩ ?_
      rotate_left
      · (rintro w ⟨s0, s7⟩; go_simp; (first | done | rfl))
      try simp only [Act.put, List.getElem_toArray, List.getElem_cons_zero, List.getElem_cons_succ, List.setIfInBounds_toArray, List.set_cons_zero, List.set_cons_succ]
      refine wpAnyH_take (i := 6) (oi := _) (v := ?_) rfl (by kernel_rfl) (by kernel_rfl) (by kernel_rfl) (fun _ _ _ h => h) (Or.inl ⟨by kernel_rfl, ?_⟩) ⟨cV, c7⟩ ?_
      rotate_left
      · (rintro w ⟨s0, s7⟩; go_simp; (first | done | rfl))
      try simp only [Act.put, List.getElem_toArray, List.getElem_cons_zero, List.getElem_cons_succ, List.setIfInBounds_toArray, List.set_cons_zero, List.set_cons_succ]
      refine wpAnyH_take (i := 7) (oi := _) (v := ?_) rfl (by kernel_rfl) (by kernel_rfl) (by kernel_rfl) (fun _ _ _ h => h) (Or.inl ⟨by kernel_rfl, ?_⟩) ⟨cV, c7⟩ ?_
      rotate_left
      · (rintro w ⟨s0, s7⟩; go_simp; (first | done | rfl))
      try simp only [Act.put, List.getElem_toArray, List.getElem_cons_zero, List.getElem_cons_succ, List.setIfInBounds_toArray, List.set_cons_zero, List.set_cons_succ]
      refine wpAnyH_take (i := 8) (oi := _) (v := ?_) rfl (by kernel_rfl) (by kernel_rfl) (by kernel_rfl) (fun _ _ _ h => h) (Or.inl ⟨by kernel_rfl, ?_⟩) ⟨cV, c7⟩ ?_
      rotate_left
      · (rintro w ⟨s0, s7⟩; go_simp; (first | done | rfl))
      try simp only [Act.put, List.getElem_toArray, List.getElem_cons_zero, List.getElem_cons_succ, List.setIfInBounds_toArray, List.set_cons_zero, List.set_cons_succ]
      refine wpAnyH_take (i := 9) (oi := _) (v := ?_) rfl (by kernel_rfl) (by kernel_rfl) (by kernel_rfl) (fun _ _ _ h => h) (Or.inl ⟨by kernel_rfl, ?_⟩) ⟨cV, c7⟩ ?_
      rotate_left
      · (rintro w ⟨s0, s7⟩; go_simp; (first | done | rfl))
      try simp only [Act.put, List.getElem_toArray, List.getElem_cons_zero, List.getElem_cons_succ, List.setIfInBounds_toArray, List.set_cons_zero, List.set_cons_succ]
      refine wpAnyH_take (i := 10) (oi := _) (v := ?_) rfl (by kernel_rfl) (by kernel_rfl) (by kernel_rfl) (fun _ _ _ h => h) (Or.inl ⟨by kernel_rfl, ?_⟩) ⟨cV, c7⟩ ?_
      rotate_left
      · (rintro w ⟨s0, s7⟩; go_simp; (first | done | rfl))
      try simp only [Act.put, List.getElem_toArray, List.getElem_cons_zero, List.getElem_cons_succ, List.setIfInBounds_toArray, List.set_cons_zero, List.set_cons_succ]
      refine wpAnyH_ready (rs := [11]) (by kernel_rfl) (by simp) (AllReadyH.cons (o := _) rfl (fun K hK => ?_) AllReadyH.nil)
      rw [if_pos (by kernel_rfl)]
      go_simp
      refine hK.out _ _ ⟨cV, c7⟩ (fun _ => ?_)
      clear hK K
      try simp only [Act.put, List.getElem_toArray, List.getElem_cons_zero, List.getElem_cons_succ, List.setIfInBounds_toArray, List.set_cons_zero, List.set_cons_succ]
      refine wpAnyH_ready (rs := [12]) (by kernel_rfl) (by simp) (AllReadyH.cons (o := _) rfl (fun K hK => ?_) AllReadyH.nil)
      rw [if_pos (by kernel_rfl)]
      go_simp
      refine hmv.mono ?_
      rintro e w5 ⟨U5, uv5, v5, ls5, r5, rfl, hC5, hs5, hk5⟩
      have cV5 : w5.cell? ⟨w.heap.size, 0, none⟩ = some (.pointer (some ⟨b, 0, none⟩)) := (hC5.ty.block _ _ _ hV0 (by decide)).cell rfl
      have c75 : w5.cell? ⟨b, 7, none⟩ = some (.map (some k.mb)) := hC5.blk.cell rfl
      refine hK.out _ _ ⟨cV5, c75⟩ (fun _ => ?_)
      clear hK K
      try simp only [Act.put, List.getElem_toArray, List.getElem_cons_zero, List.getElem_cons_succ, List.setIfInBounds_toArray, List.set_cons_zero, List.set_cons_succ]
      refine wpAnyH_ready (rs := [13]) (by kernel_rfl) (by simp) (AllReadyH.cons (o := _) rfl (fun K hK => ?_) AllReadyH.nil)
      rw [if_pos (by kernel_rfl)]
      obtain ⟨w6, hmu, hC6, hg6⟩ := hC5.put hroot hnot hidI hfl hsnap hs5 hBW hmbs (by rw [Hnk.out]; omega)
      have hAt6 : ClAt W0 w6 B b U s k w2.heap.size f' (j + 1) := ⟨U5, uv5, v5, ls5, rnj, frj ++ [(idj, r5)], hC6, by simp [hfl], hk5 _ _ hsj⟩
      have cV6 : w6.cell? ⟨w.heap.size, 0, none⟩ = some (.pointer (some ⟨b, 0, none⟩)) := (hC6.ty.block _ _ _ hV0 (by decide)).cell rfl
      have c76 : w6.cell? ⟨b, 7, none⟩ = some (.map (some k.mb)) := hC6.blk.cell rfl
      clear hC5 hC6 hC hs5 hk5 hg6 hsj
      go_simp
      refine hK.out _ _ ⟨cV6, c76⟩ (fun _ => ?_)
      clear hK K
      try simp only [Act.put, List.getElem_toArray, List.getElem_cons_zero, List.getElem_cons_succ, List.setIfInBounds_toArray, List.set_cons_zero, List.set_cons_succ]
      refine wpAnyH_done (by kernel_rfl) ?_ _
      refine NoPanic.normal ?_
      go_wp2
      go_roundw
      case rel => exact ⟨j + 1, by omega, by go_num, hAt6⟩
      case measure => simp [intOf]; omega
    · have hin : (nk : Int) ≤ (j : Int) := by omega
      obtain ⟨Uj, uvj, vj, lsj, rnj, frj, hC, hfl, hsj⟩ := hA
      have cV : wr.cell? ⟨w.heap.size, 0, none⟩ = some (.pointer (some ⟨b, 0, none⟩)) := (hC.ty.block _ _ _ hV0 (by decide)).cell rfl
      obtain ⟨UA9, uc9, rfl, -, -, -⟩ := own_form hC.gm.row
      have g0 := hC.fresh.cell (j := 0) (u := .int .i64 (s.n : Int)) rfl
      have g1 := hC.fresh.cell (j := 1) (u := .pointer (some ⟨f', 0, none⟩)) rfl
      have g2 := hC.fresh.cell (j := 2) (u := .slice UA9 vj.length uc9) rfl
      have b1 := hC.blk.cell (j := 1) (u := .int .i64 (s.n : Int)) rfl
      have b2 := hC.blk.cell (j := 2) (u := .pointer (some ⟨k.f, 0, none⟩)) rfl
      have b3 := hC.blk.cell (j := 3) (u := k.uv) rfl
      have z1 := hC.blk.free 1
      have z2 := hC.blk.free 2
      have z3 := hC.blk.free 3
      obtain ⟨wz, hwz⟩ : ∃ wz, ((wr.setCell ⟨b, 1, none⟩ (.int .i64 (s.n : Int))).setCell ⟨b, 2, none⟩ (.pointer (some ⟨f', 0, none⟩))).setCell ⟨b, 3, none⟩ (.slice UA9 vj.length uc9) = wz := ⟨_, rfl⟩
      have hfin := hC.done h0 hb0 (by omega) (by rw [hfl, Hnk.out]; omega) hsj ho hns (Nat.le_trans h.r.base (Nat.le_of_lt hbw)) (fun j hj => (h.r.ulow j hj).2) hwz
      clear hC
      go_wp2
      go_end0
      exact ⟨rfl, hfin⟩
end
end Sha
end Go.Proofs.Ytfcfffilfmbpeaa
