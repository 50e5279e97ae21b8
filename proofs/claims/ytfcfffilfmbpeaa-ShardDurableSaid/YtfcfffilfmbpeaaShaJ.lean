/- Layer 12: Do. -/
import Derived.Test.YtfcfffilfmbpeaaShaI
import Derived.Deep.RegionLaw
set_option linter.all false
namespace Go.Proofs.Ytfcfffilfmbpeaa
open Go.RowKit Go.Maps
namespace Sha
open Blo (vol fun_ GotN AnsN Dat FitB)

/-- An op's numbers are laid. -/
structure Held (w w' : World) (B : Nat) (U : Nat → Prop) (b : Nat) (s : SS) (k : CS) (o : BOp) (uv' : Value) (ch : Chn) : Prop where
  cho : Cho s.n (k.u ++ o.data) ch o
  blk : Blk w' b 65 (sha b s { k with uv := uv' })
  gm : Gm w' B (gr (fun j => j = b ∨ k.uv.ownBlock = some j) w w') s.n k.f uv' (k.u ++ o.data) k.ls
  fr : Fr B (fun j => j = b ∨ k.uv.ownBlock = some j) w w'
theorem tn_grown {b : Nat} {w w' : World} (h : Tn b (b + 1) w w') : w.grownBy w' (some b) := ⟨h.os, h.tape, h.output, h.size, fun i hi hne => h.block i hi (by
  have : i ≠ b := fun e => hne (by rw [e])
  omega)⟩
/-- .. and the change lies in a variable. -/
structure Hdv (w w' : World) (B : Nat) (b : Nat) (s : SS) (k : CS) (o : BOp) (uv' : Value) (ch : Chn) (qv : Nat) : Prop where
  cho : Cho s.n (k.u ++ o.data) ch o
  blk : Blk w' b 65 (sha b s { k with uv := uv' })
  gm : Gm w' B (gr (fun j => j = b ∨ k.uv.ownBlock = some j) w w') s.n k.f uv' (k.u ++ o.data) k.ls
  fr : Fr B (fun j => j = b ∨ k.uv.ownBlock = some j) w w'
  var : Blk w' qv 79 (cva ch)
  low : w.heap.size ≤ qv
/-- The call first, then the variable. -/
theorem Held.first {w w1 w2 w3 w4 : World} {B b : Nat} {U : Nat → Prop} {s : SS} {k : CS} {o : BOp} {uv' : Value} {ch : Chn} (h : Held w1 w2 B U b s k o uv' ch) (hb : Below w.heap.size w w1) (hB : B ≤ w.heap.size) (hbl : b < w.heap.size) (z : Array Value) (hz : z = #[.int .i64 0, .int .i64 0, .int .i64 0, .int .i64 0, .int .i64 0]) (h3 : w2.alloc (.cells z 79) = w3)
    (hv4 : Blk w4 w2.heap.size 79 (cva ch)) (hg : w3.grownBy w4 (some w2.heap.size)) : Hdv w w4 B b s k o uv' ch w2.heap.size := by
  subst hz
  have hv := Blk.new w2 79 #[.int .i64 0, .int .i64 0, .int .i64 0, .int .i64 0, .int .i64 0] rfl
  have hb3 : Below w2.heap.size w2 (w2.alloc (.cells #[.int .i64 0, .int .i64 0, .int .i64 0, .int .i64 0, .int .i64 0] 79)) := (Below.refl _ _).alloc (Nat.le_refl _) _
  rw [h3] at hv hb3
  have hb4 : Below w2.heap.size w2 w4 := hb3.grown hg hb3.size fun j hj => by injection hj with hj; omega
  have s1 : w.heap.size ≤ w1.heap.size := hb.size
  have s2 : w1.heap.size ≤ w2.heap.size := h.fr.size
  have s4 : w2.heap.size ≤ w4.heap.size := hb4.size
  exact ⟨h.cho, h.blk.keep hb4, (h.gm.below hb4).sub fun j _ hj => hj.imp id fun q => by omega, ((Fr.ofBelow hb hB).then h.fr fun j hj => .inl hj).then (U' := fun _ => False) (Fr.ofBelow hb4 (by omega)) fun j hj => hj.elim, hv4, by omega⟩
/-- The variable first, then the call. -/
theorem Held.second {w w1 w2 w4 : World} {B b : Nat} {U : Nat → Prop} {s : SS} {k : CS} {o : BOp} {uv' : Value} {ch : Chn} {qv : Nat} (h : Held w1 w2 B U b s k o uv' ch) (hb : Below w.heap.size w w1) (hB : B ≤ w.heap.size) (hbl : b < w.heap.size) (hub : ∀ j, k.uv.ownBlock = some j → j < w.heap.size) (hq : w.heap.size ≤ qv) (hv1 : Blk w1 qv 79 #[.int .i64 0, .int .i64 0, .int .i64 0, .int .i64 0, .int .i64 0])
    (hv4 : Blk w4 qv 79 (cva ch)) (hg : w2.grownBy w4 (some qv)) : Hdv w w4 B b s k o uv' ch qv := by
  have hv : Blk w2 qv 79 #[.int .i64 0, .int .i64 0, .int .i64 0, .int .i64 0, .int .i64 0] := h.fr.blk _ _ _ hv1 (fun e => by
    rcases e with e | e
    · omega
    · have := hub _ e; omega) fot_change
  have s1 : w.heap.size ≤ w1.heap.size := hb.size
  have s2 : w1.heap.size ≤ w2.heap.size := h.fr.size
  have s4 : w2.heap.size ≤ w4.heap.size := hg.size
  exact ⟨h.cho, h.blk.grown hg (fun e => by injection e with e; omega), (h.gm.grown hg hv (h.gm.apart hv (by decide)) (by decide) (by decide) (by decide)).sub fun j _ hj => hj.imp id fun q => by omega, ((Fr.ofBelow hb hB).then h.fr fun j hj => .inl hj).then (U' := fun j => j = qv) (Fr.grown hg (by omega) fun j hj => by injection hj with hj; subst hj; exact ⟨by omega, rfl⟩) fun j hj => .inr (by omega), hv4, hq⟩
/-- An op more. -/
theorem ShX.did {w w6 w7 w8 w8a w9 w10 : World} {B b qv : Nat} {U : Nat → Prop} {s : SS} {k : CS} {o : BOp} {uv' v9 : Value} {ch : Chn} {ob : Obj} {q' : Root} (h : ShX w B U b s k) (hH : Hdv w w6 B b s k o uv' ch qv) (hD : Gdo w6 w7 B (gr (fun j => j = b ∨ k.uv.ownBlock = some j) w w6) s.n k.f uv' (k.u ++ o.data) k.ls (apv s.now o) q')
    (h8 : w7.setCell ⟨b, 4, none⟩ (.int .i64 (k.ls.length : Int)) = w8) (h8a : w8.alloc ob = w8a) (hown : w9.ownsRow B 79 5 v9 (k.oc.length + 1) (cvs k.oc ++ cvl ch)) (hg9 : w8a.grownBy w9 k.ov.ownBlock) (hat : v9.ownBlock = k.ov.ownBlock ∨ v9.ownBlock = some w8a.heap.size) (h10 : w9.setCell ⟨b, 6, none⟩ v9 = w10)
    (hok : Ok { s with now := apv s.now o, opn := s.opn ++ [o] }) (hl : o.data.length ≤ 64) (ht : k.ls.length ≤ 257 + s.opn.length) : Nx w w10 B U b { s with now := apv s.now o, opn := s.opn ++ [o] } := by
  have hr := h.r
  have hbl := h.blk.lt
  have hBw : B ≤ w.heap.size := Nat.le_trans hr.base (Nat.le_of_lt hbl)
  have hnotO : ∀ g, k.ov.ownBlock = some g → ¬ (g = b ∨ k.uv.ownBlock = some g) := fun g hg e => by
    obtain ⟨cs, q⟩ := own_blk2 hr.orow hg
    rcases e with e | e
    · subst e; exact absurd (blk_type h.blk q) (by decide)
    · exact own_ne hr.gm.row hr.orow (by decide) e hg
  have hnotR : ∀ g, k.rv.ownBlock = some g → ¬ (g = b ∨ k.uv.ownBlock = some g) := fun g hg e => by
    obtain ⟨cs, q⟩ := own_blk2 hr.rrow hg
    rcases e with e | e
    · subst e; exact absurd (blk_type h.blk q) (by decide)
    · exact own_ne hr.gm.row hr.rrow (by decide) e hg
  have hnotM : ¬ (k.mb = b ∨ k.uv.ownBlock = some k.mb) := fun e => by
    rcases e with e | e
    · exact hr.map.apart h.blk e.symm
    · exact hr.map.apartO hr.gm.row e
  -- w6
  have o6 := own_fr hr.orow hH.fr hnotO fot_change
  have r6 := own_fr hr.rrow hH.fr hnotR fot_int
  have m6 : Mp w6 k.mb k.roots.length (rootOf k.roots) := by
    obtain ⟨D, ⟨es, clock, e1, r⟩, r2⟩ := hr.map.own
    exact ⟨D, ⟨es, clock, hH.fr.maps _ _ _ hnotM e1, r⟩, r2⟩
  -- w7
  have b7 := hD.ty.block _ _ _ hH.blk fot_shard
  have o7 := own_ty hD.ty fot_change o6
  have r7 := own_ty hD.ty fot_int r6
  have m7 : Mp w7 k.mb k.roots.length (rootOf k.roots) := by
    obtain ⟨D, ⟨es, clock, e1, r⟩, r2⟩ := m6.own
    exact ⟨D, ⟨es, clock, hD.maps _ _ _ e1, r⟩, r2⟩
  -- w8
  have hg8 := grown_setCell w7 ⟨b, 4, none⟩ (.int .i64 (k.ls.length : Int))
  have b8 := b7.setCell 4 (.int .i64 (k.ls.length : Int))
  have o8 := own_set_ne b7 o7 (by decide) 4 (.int .i64 (k.ls.length : Int))
  have r8 := own_set_ne b7 r7 (by decide) 4 (.int .i64 (k.ls.length : Int))
  have g8 := hD.gm.grown hg8 b7 (hD.gm.apart b7 (by decide)) (by decide) (by decide) (by decide)
  have m8 := m7.kept hg8 fun e => by injection e with e; exact m7.apart b7 e.symm
  rw [h8] at hg8 b8 o8 r8 g8 m8
  have hba : Below w8.heap.size w8 w8a := by rw [← h8a]; exact (Below.refl _ _).alloc (Nat.le_refl _) _
  have o8a := own_keep o8 hba
  have r8a := own_keep r8 hba
  have b8a := b8.keep hba
  have g8a := g8.below hba
  have m8a := m8.below hba
  -- w9
  have b9 := blk_row b8a o8a hg9 (by decide)
  have r9 := own_row2 r8a o8a hg9 (by decide)
  have g9 := gm_row g8a o8a hg9 (by decide) (by decide) (by decide) (by decide)
  have m9 := map_row m8a o8a hg9
  -- w10
  have hg10 := grown_setCell w9 ⟨b, 6, none⟩ v9
  have b10 := b9.setCell 6 v9
  have r10 := own_set_ne b9 r9 (by decide) 6 v9
  have o10 := own_set_ne b9 hown (by decide) 6 v9
  have g10 := g9.grown hg10 b9 (g9.apart b9 (by decide)) (by decide) (by decide) (by decide)
  have m10 := m9.kept hg10 fun e => by injection e with e; exact m9.apart b9 e.symm
  rw [h10] at hg10 b10 r10 o10 g10 m10
  have s6 : w.heap.size ≤ w6.heap.size := hH.fr.size
  have s7 : w6.heap.size ≤ w7.heap.size := hD.bel.size
  have s8 : w7.heap.size ≤ w8.heap.size := hg8.size
  have s8a : w8.heap.size ≤ w8a.heap.size := hba.size
  have s9 : w8a.heap.size ≤ w9.heap.size := hg9.size
  have s10 : w9.heap.size ≤ w10.heap.size := hg10.size
  have hbB : ∀ j, some b = some j → B ≤ j ∧ U j := fun j hj => by injection hj with hj; subst hj; exact ⟨hr.base, hr.ub⟩
  have f6 : Fr B U w w6 := hH.fr.sub fun j _ hj => by
    rcases hj with rfl | hj
    · exact hr.ub
    · exact hr.gm.out j hj
  have f7 : Fr B U w w7 := f6.then (U' := fun _ => False) (Fr.ty hD.ty hD.bel hD.maps) fun j hj => hj.elim
  have f8 : Fr B U w w8 := f7.then (U' := U) (Fr.grown hg8 (by omega) hbB) fun j hj => .inl hj
  have f8a : Fr B U w w8a := f8.then (U' := fun _ => False) (Fr.ofBelow hba (by omega)) fun j hj => hj.elim
  have f9 : Fr B U w w9 := f8a.then (U' := U) (Fr.grown hg9 (by omega) fun j hj => ⟨(hr.ulow j (hr.oout j hj)).1, hr.oout j hj⟩) fun j hj => .inl hj
  have f10 : Fr B U w w10 := f9.then (U' := U) (Fr.grown hg10 (by omega) hbB) fun j hj => .inl hj
  have hcU := fun c o' => Cho.units (n := s.n) (u := k.u) (c := c) (o := o')
  refine ⟨⟨{ k with uv := uv', u := k.u ++ o.data, ls := k.ls ++ [q'], now := k.ls.length, ov := v9, oc := k.oc ++ [ch] }, ⟨b10, ?_⟩, ?_⟩, f10⟩
  · exact {
      gm := g10.sub fun j _ hj => by
        rcases hj with (rfl | hj) | hj
        · exact .inl hr.ub
        · exact .inl (hr.gm.out j hj)
        · exact .inr (by omega)
      base := hr.base
      ub := .inl hr.ub
      ulow := gr_low hr.ulow hBw (by omega)
      spare := by have := hr.spare; simp only [List.length_append, List.length_singleton]; omega
      zero := by show (k.ls ++ [q'])[0]? = _; rw [List.getElem?_append_left hr.gm.gd.least]; exact hr.zero
      now := hD.shw
      sure := hD.old _ _ (hr.sure.units hr.gm.gd o.data)
      orow := by
        have e1 : cvs (k.oc ++ [ch]) = cvs k.oc ++ cvl ch := by rw [cvs_app]; simp [cvs]
        have e2 : (k.oc ++ [ch]).length = k.oc.length + 1 := by simp
        show w10.ownsRow B _ 5 v9 (k.oc ++ [ch]).length (cvs (k.oc ++ [ch]))
        rw [e1, e2]
        exact o10
      oout := fun g hg => by
        rcases hat with e | e
        · exact .inl (hr.oout g (by rw [← e]; exact hg))
        · have hg' : v9.ownBlock = some g := hg
          rw [hg'] at e
          injection e with e
          have := (hown.lt g hg').2
          exact .inr ⟨by omega, by omega⟩
      ops := (hr.ops.imp fun c o' q => q.units o.data).snoc hH.cho
      rrow := r10
      rout := fun g hg => .inl (hr.rout g hg)
      map := m10
      mout := .inl hr.mout
      snaps := hr.snaps.imp fun a c q => ⟨q.1, hD.old _ _ (q.2.units hr.gm.gd o.data)⟩
      ok := hok }
  · simp only [List.length_append, List.length_singleton]; omega
theorem enters_hold (vs : Array Value) (w : World) : (callFunc 41 vs).run Try.prog w = .ok (.enter 41 vs) w := by go_simp
theorem enters_do (vs : Array Value) (w : World) : (callFunc 34 vs).run Try.prog w = .ok (.enter 34 vs) w := by go_simp
section
variable (w : World) (B b : Nat) (U : Nat → Prop) (s : SS)
theorem ShX.hold_ {w : World} {B b : Nat} {U : Nat → Prop} {s : SS} {k : CS} (h : ShX w B U b s k) (W : World) (hW : Below w.heap.size w W) (o : BOp) (X : Option Addr) (m c : Nat) (hd : Dat w o X m c) (hr : o.right s.n = true) :
    Calls Try.prog 41 #[.pointer (some ⟨b, 1, none⟩), .agg #[.int .i64 o.kind, .int .i64 o.off, .int .i64 o.len, .slice X m c]] W fun e w' => ∃ uv' ch, e = .returned (.agg (cva ch)) ∧ Held W w' B U b s k o uv' ch := by
  have hX := h.below hW
  have h3 : (sha b s k)[1 + 2]? = some k.uv := rfl
  have hl64 : o.data.length ≤ 64 := by
    obtain ⟨hok, -, -⟩ := ok_of_right hr
    rcases hok.form with ⟨-, -, q⟩ | ⟨-, q⟩
    · exact q
    · rw [q]; simp
  have hsp := h.r.spare
  have hUs : ∀ j, (j = b ∨ k.uv.ownBlock = some j) → j < W.heap.size := fun j hj => by
    rcases hj with rfl | hj
    · exact hX.blk.lt
    · exact (hX.r.ulow j (hX.r.gm.out j hj)).2
  refine (Sha.hold_ W B s.n k.f b 1 65 (sha b s k) (fun j => j = b ∨ k.uv.ownBlock = some j) k.uv k.u k.ls hX.blk ⟨hX.r.gm.row, hX.r.gm.fo, hX.r.gm.gd, fun g hg => .inr hg⟩ h3 ⟨by decide, by decide, by decide, by decide⟩ hX.r.base (.inl rfl) hUs o X m c (hd.below hW) hr (by rw [List.length_append]; omega)).mono ?_
  rintro e w' ⟨uv', ch, rfl, h1, h2, h4, h5⟩
  exact ⟨uv', ch, rfl, h1, h2, h4, h5⟩
set_option maxRecDepth 100000 in
set_option maxHeartbeats 2000000 in
theorem do_ (h : Sh w B U b s) (o : BOp) (X : Option Addr) (m c : Nat) (hd : Dat w o X m c) : Calls Try.prog 23 #[.pointer (some ⟨b, 0, none⟩), .agg #[.int .i64 o.kind, .int .i64 o.off, .int .i64 o.len, .slice X m c]] w fun e w' => e = .returned (.int .i64 (doE s o)) ∧ Nx w w' B U b (doS s o) := by
  have hBw := h.base
  have hb0 : Below w.heap.size w (w.alloc (.cells #[.int .i64 o.kind, .int .i64 o.off, .int .i64 o.len, .slice X m c] 31)) := (Below.refl _ _).alloc (Nat.le_refl _) _
  have hq0 := Blk.new w 31 #[.int .i64 o.kind, .int .i64 o.off, .int .i64 o.len, .slice X m c] rfl
  obtain ⟨w0, hw0⟩ : ∃ w0, w.alloc (.cells #[.int .i64 o.kind, .int .i64 o.off, .int .i64 o.len, .slice X m c] 31) = w0 := ⟨_, rfl⟩
  rw [hw0] at hb0 hq0
  have h0 := h.below hb0
  have hR : Nx w w0 B U b s := Nx.below hb0 hBw (Nx.refl h0)
  have hU := h.ulow
  have hok := h.ok
  have hd0 := hd.below hb0
  clear h hd
  have h00 := h0
  obtain ⟨k, h, ht⟩ := h0
  have hmade := h.made
  have q0 := hq0.cell (j := 0) (u := .int .i64 o.kind) rfl
  have q1 := hq0.cell (j := 1) (u := .int .i64 o.off) rfl
  have q2 := hq0.cell (j := 2) (u := .int .i64 o.len) rfl
  have q3 := hq0.cell (j := 3) (u := .slice X m c) rfl
  have c1 := h.cell (j := 1) (u := .int .i64 (s.n : Int)) rfl
  have c9 := h.cell (j := 9) (u := .bool s.frz) rfl
  have hright := Blo.right1_ w0.drew s.n o X m c (by have := hok.most; unfold Blo.I64; omega) (hd0.below (below_drewN (Below.refl _ _) 1))
  have hEr : o.right s.n = false → doE s o = 1 ∧ doS s o = s := fun e => by
    have h1 : doE s o = 1 := by unfold doE; rw [if_neg (by rw [e]; decide)]
    exact ⟨h1, by unfold doS; rw [h1, if_neg (by decide)]⟩
  cases hrt : o.right (s.n : Int) with
  | false =>
    rw [hrt] at hright
    rw [(hEr hrt).1, (hEr hrt).2]
    go_enter Try.func23, Try.ntmps23
    go_wp2_with fail
    refine hmade.mono ?_
    rintro e w' ⟨rfl, rfl⟩
    go_wp2_with fail
    go_region_held3 (fun w' => w'.cell? ⟨b, 1, none⟩ = some (.int .i64 (s.n : Int)) ∧ w'.cell? ⟨w.heap.size, 0, none⟩ = some (.int .i64 o.kind) ∧ w'.cell? ⟨w.heap.size, 1, none⟩ = some (.int .i64 o.off) ∧ w'.cell? ⟨w.heap.size, 2, none⟩ = some (.int .i64 o.len) ∧ w'.cell? ⟨w.heap.size, 3, none⟩ = some (.slice X m c))
      (first | go_keep | exact ⟨c1, q0, q1, q2, q3⟩ | exact ⟨(hb3.cell (cell_lt c1)).trans c1, (hb3.cell (cell_lt q0)).trans q0, (hb3.cell (cell_lt q1)).trans q1, (hb3.cell (cell_lt q2)).trans q2, (hb3.cell (cell_lt q3)).trans q3⟩)
      (first
        | (go_at_call 40; refine hright.mono ?_
           rintro e w3 ⟨rfl, hb3⟩))
    go_wp2
    go_ret
    have hb4 := Blo.below_undrew hb3
    exact ⟨rfl, (Nx.below hb0 hBw (Nx.below hb4 h00.base (Nx.refl (h00.below hb4))))⟩
  | true =>
    rw [hrt] at hright
    cases hfz : s.frz with
    | true =>
      have hE : doE s o = 11 := by unfold doE; rw [if_pos hrt, if_pos hfz]
      have hS : doS s o = s := by unfold doS; rw [hE, if_neg (by decide)]
      rw [hE, hS]
      go_enter Try.func23, Try.ntmps23
      go_wp2_with fail
      refine hmade.mono ?_
      rintro e w' ⟨rfl, rfl⟩
      go_wp2_with fail
      go_region_held3 (fun w' => w'.cell? ⟨b, 1, none⟩ = some (.int .i64 (s.n : Int)) ∧ w'.cell? ⟨w.heap.size, 0, none⟩ = some (.int .i64 o.kind) ∧ w'.cell? ⟨w.heap.size, 1, none⟩ = some (.int .i64 o.off) ∧ w'.cell? ⟨w.heap.size, 2, none⟩ = some (.int .i64 o.len) ∧ w'.cell? ⟨w.heap.size, 3, none⟩ = some (.slice X m c))
        (first | go_keep | exact ⟨c1, q0, q1, q2, q3⟩ | exact ⟨(hb3.cell (cell_lt c1)).trans c1, (hb3.cell (cell_lt q0)).trans q0, (hb3.cell (cell_lt q1)).trans q1, (hb3.cell (cell_lt q2)).trans q2, (hb3.cell (cell_lt q3)).trans q3⟩)
        (first
          | (go_at_call 40; refine hright.mono ?_
             rintro e w3 ⟨rfl, hb3⟩))
      have hb4 := Blo.below_undrew hb3
      have c9' := (hb4.cell (cell_lt c9)).trans c9
      rw [hfz] at c9'
      go_wp2
      go_ret
      exact ⟨rfl, (Nx.below hb0 hBw (Nx.below hb4 h00.base (Nx.refl (h00.below hb4))))⟩
    | false =>
      obtain ⟨OA, oc, hov, -, -, -⟩ := own_form h.r.orow
      have hol := h.r.ops.length
      have c6 : w0.cell? ⟨b, 6, none⟩ = some (.slice OA s.opn.length oc) := by rw [← hol, ← hov]; exact h.cell rfl
      clear hov hol
      by_cases h256 : s.opn.length = 256
      · have hE : doE s o = 6 := by unfold doE; rw [if_pos hrt, hfz, if_neg (by decide), if_pos h256]
        have hS : doS s o = s := by unfold doS; rw [hE, if_neg (by decide)]
        rw [hE, hS]
        rw [h256] at c6
        go_enter Try.func23, Try.ntmps23
        go_wp2_with fail
        refine hmade.mono ?_
        rintro e w' ⟨rfl, rfl⟩
        go_wp2_with fail
        go_region_held3 (fun w' => w'.cell? ⟨b, 1, none⟩ = some (.int .i64 (s.n : Int)) ∧ w'.cell? ⟨w.heap.size, 0, none⟩ = some (.int .i64 o.kind) ∧ w'.cell? ⟨w.heap.size, 1, none⟩ = some (.int .i64 o.off) ∧ w'.cell? ⟨w.heap.size, 2, none⟩ = some (.int .i64 o.len) ∧ w'.cell? ⟨w.heap.size, 3, none⟩ = some (.slice X m c))
          (first | go_keep | exact ⟨c1, q0, q1, q2, q3⟩ | exact ⟨(hb3.cell (cell_lt c1)).trans c1, (hb3.cell (cell_lt q0)).trans q0, (hb3.cell (cell_lt q1)).trans q1, (hb3.cell (cell_lt q2)).trans q2, (hb3.cell (cell_lt q3)).trans q3⟩)
          (first
            | (go_at_call 40; refine hright.mono ?_
               rintro e w3 ⟨rfl, hb3⟩))
        have hb4 := Blo.below_undrew hb3
        have c9' := (hb4.cell (cell_lt c9)).trans c9
        have c6' := (hb4.cell (cell_lt c6)).trans c6
        rw [hfz] at c9'
        go_wp2
        go_ret
        exact ⟨rfl, (Nx.below hb0 hBw (Nx.below hb4 h00.base (Nx.refl (h00.below hb4))))⟩
      · have hE : doE s o = 0 := by unfold doE; rw [if_pos hrt, hfz, if_neg (by decide), if_neg h256]
        have hS : doS s o = { s with now := apv s.now o, opn := s.opn ++ [o] } := by unfold doS; rw [if_pos hE]
        have hok2 := hok.doS o
        rw [hS] at hok2
        rw [hE, hS]
        have hlI : ((s.opn.length : Int) == 256) = false := by simp; omega
        generalize hln : s.opn.length = ln at *
        have Hln := Lib.hid hln
        clear hln hE hS
        go_enter Try.func23, Try.ntmps23
        go_wp2_with fail
        refine hmade.mono ?_
        rintro e w' ⟨rfl, rfl⟩
        go_wp2_with fail
        go_region_held3 (fun w' => w'.cell? ⟨b, 1, none⟩ = some (.int .i64 (s.n : Int)) ∧ w'.cell? ⟨w.heap.size, 0, none⟩ = some (.int .i64 o.kind) ∧ w'.cell? ⟨w.heap.size, 1, none⟩ = some (.int .i64 o.off) ∧ w'.cell? ⟨w.heap.size, 2, none⟩ = some (.int .i64 o.len) ∧ w'.cell? ⟨w.heap.size, 3, none⟩ = some (.slice X m c))
          (first | go_keep | exact ⟨c1, q0, q1, q2, q3⟩ | exact ⟨(hb3.cell (cell_lt c1)).trans c1, (hb3.cell (cell_lt q0)).trans q0, (hb3.cell (cell_lt q1)).trans q1, (hb3.cell (cell_lt q2)).trans q2, (hb3.cell (cell_lt q3)).trans q3⟩)
          (first
            | (go_at_call 40; refine hright.mono ?_
               rintro e w3 ⟨rfl, hb3⟩))
        have hb4 := Blo.below_undrew hb3
        have c9' := (hb4.cell (cell_lt c9)).trans c9
        have c6' := (hb4.cell (cell_lt c6)).trans c6
        rw [hfz] at c9'
        have h3 := h.below hb4
        have hd3 := hd0.below hb4
        have hq3 := hq0.keep hb4
        clear c1 c6 c9 q0 q1 q2 q3 hright hmade h hd0 hq0
        go_wp2_with fail
        have hb34 : w.heap.size ≤ w3.heap.size := Nat.le_trans hb0.size hb4.size
        have hbl : b < w.heap.size := (hU b h3.r.ub).2
        have huv : ∀ j, k.uv.ownBlock = some j → j < w.heap.size := fun j hj => (hU j (h3.r.gm.out j hj)).2
        have hql := hq3.lt
        have hWd : Below w3.heap.size w3 w3.drew := below_drewN (Below.refl _ _) 1
        obtain ⟨w3a, hw3a⟩ : ∃ w3a, w3.alloc (.cells #[.int .i64 0, .int .i64 0, .int .i64 0, .int .i64 0, .int .i64 0] 79) = w3a := ⟨_, rfl⟩
        have hv3 := Blk.new w3 79 #[.int .i64 0, .int .i64 0, .int .i64 0, .int .i64 0, .int .i64 0] rfl
        have hb3a : Below w3.heap.size w3 (w3.alloc (.cells #[.int .i64 0, .int .i64 0, .int .i64 0, .int .i64 0, .int .i64 0] 79)) := (Below.refl _ _).alloc (Nat.le_refl _) _
        rw [hw3a] at hv3 hb3a
        have hWa : Below w3.heap.size w3 w3a.drew := below_drewN hb3a 1
        have hhold := fun W hW => h3.hold_ W hW o X m c hd3 hrt
        have q0 := hq3.cell (j := 0) (u := .int .i64 o.kind) rfl
        have q1 := hq3.cell (j := 1) (u := .int .i64 o.off) rfl
        have q2 := hq3.cell (j := 2) (u := .int .i64 o.len) rfl
        have q3 := hq3.cell (j := 3) (u := .slice X m c) rfl
        have hfop : ¬ FoT 31 := by unfold FoT; decide
        have hqn : ¬ (w.heap.size = b ∨ k.uv.ownBlock = some w.heap.size) := fun e => by
          rcases e with e | e
          · omega
          · have := huv _ e; omega
        have hvn : ¬ (w3.heap.size = b ∨ k.uv.ownBlock = some w3.heap.size) := fun e => by
          rcases e with e | e
          · omega
          · have := huv _ e; omega
        have hq3a := hq3.keep hb3a
        refine wp_region_noPanic ?_
        refine wp_region_held_drew (S := fun w' => w'.cell? ⟨w.heap.size, 0, none⟩ = some (.int .i64 o.kind) ∧ w'.cell? ⟨w.heap.size, 1, none⟩ = some (.int .i64 o.off) ∧ w'.cell? ⟨w.heap.size, 2, none⟩ = some (.int .i64 o.len) ∧ w'.cell? ⟨w.heap.size, 3, none⟩ = some (.slice X m c)) (by kernel_rfl) ⟨q0, q1, q2, q3⟩ (fun _ => ?_)
        refine wpAnyH_take (i := 0) (oi := _) (v := ?_) rfl (by kernel_rfl) (by kernel_rfl) (by kernel_rfl) (fun _ _ _ h => h) (Or.inl ⟨by kernel_rfl, ?_⟩) ⟨q0, q1, q2, q3⟩ ?_
        rotate_left
        · (rintro w ⟨s0, s1, s2, s3⟩; go_simp; (first | done | rfl))
        try simp only [Act.put, List.getElem_toArray, List.getElem_cons_zero, List.getElem_cons_succ, List.setIfInBounds_toArray, List.set_cons_zero, List.set_cons_succ]
        refine wpAnyH_take (i := 1) (oi := _) (v := ?_) rfl (by kernel_rfl) (by kernel_rfl) (by kernel_rfl) (fun _ _ _ h => h) (Or.inl ⟨by kernel_rfl, ?_⟩) ⟨q0, q1, q2, q3⟩ ?_
        rotate_left
        · (rintro w ⟨s0, s1, s2, s3⟩; go_simp; (first | done | rfl))
        try simp only [Act.put, List.getElem_toArray, List.getElem_cons_zero, List.getElem_cons_succ, List.setIfInBounds_toArray, List.set_cons_zero, List.set_cons_succ]
        refine wpAnyH_take (i := 2) (oi := _) (v := ?_) rfl (by kernel_rfl) (by kernel_rfl) (by kernel_rfl) (fun _ _ _ h => h) (Or.inl ⟨by kernel_rfl, ?_⟩) ⟨q0, q1, q2, q3⟩ ?_
        rotate_left
        · (rintro w ⟨s0, s1, s2, s3⟩; go_simp; (first | done | rfl))
        try simp only [Act.put, List.getElem_toArray, List.getElem_cons_zero, List.getElem_cons_succ, List.setIfInBounds_toArray, List.set_cons_zero, List.set_cons_succ]
        refine wpAnyH_take (i := 3) (oi := _) (v := ?_) rfl (by kernel_rfl) (by kernel_rfl) (by kernel_rfl) (fun _ _ _ h => h) (Or.inl ⟨by kernel_rfl, ?_⟩) ⟨q0, q1, q2, q3⟩ ?_
        rotate_left
        · (rintro w ⟨s0, s1, s2, s3⟩; go_simp; (first | done | rfl))
        try simp only [Act.put, List.getElem_toArray, List.getElem_cons_zero, List.getElem_cons_succ, List.setIfInBounds_toArray, List.set_cons_zero, List.set_cons_succ]
        refine wpAnyH_ready (rs := [4, 5]) (by kernel_rfl) (by simp) (AllReadyH.cons (o := _) rfl (fun K hK => ?_) (AllReadyH.cons (o := _) rfl (fun K hK => ?_) AllReadyH.nil))
        rw [if_pos (by kernel_rfl)]
        refine wp_fn 41 _ _ rfl _ rfl enters_hold (hhold _ hWd) ?_
        rintro e w5 ⟨uv5, ch, rfl, hH5⟩
        refine ⟨_, rfl, ?_⟩
        have hs5 : w3.heap.size ≤ w5.heap.size := hH5.fr.size
        have hq5 := hH5.fr.blk _ _ _ (show Blk w3.drew w.heap.size 31 _ from hq3) hqn hfop
        refine hK.out _ _ ⟨hq5.cell rfl, hq5.cell rfl, hq5.cell rfl, hq5.cell rfl⟩ (fun _ => ?_)
        clear hK K
        try simp only [Act.put, List.getElem_toArray, List.getElem_cons_zero, List.getElem_cons_succ, List.setIfInBounds_toArray, List.set_cons_zero, List.set_cons_succ]
        refine wpAnyH_ready (rs := [5]) (by kernel_rfl) (by simp) (AllReadyH.cons (o := _) rfl (fun K hK => ?_) AllReadyH.nil)
        rw [if_pos (by kernel_rfl)]
        go_simp
        have hv5 := Blk.new w5 79 #[.int .i64 0, .int .i64 0, .int .i64 0, .int .i64 0, .int .i64 0] rfl
        have hq5a := hq5.alloc (.cells #[.int .i64 0, .int .i64 0, .int .i64 0, .int .i64 0, .int .i64 0] 79)
        refine hK.out _ _ ⟨hq5a.cell rfl, hq5a.cell rfl, hq5a.cell rfl, hq5a.cell rfl⟩ (fun _ => ?_)
        clear hK K
        try simp only [Act.put, List.getElem_toArray, List.getElem_cons_zero, List.getElem_cons_succ, List.setIfInBounds_toArray, List.set_cons_zero, List.set_cons_succ]
        refine wpAnyH_ready (rs := [6]) (by kernel_rfl) (by simp) (AllReadyH.cons (o := _) rfl (fun K hK => ?_) AllReadyH.nil)
        rw [if_pos (by kernel_rfl)]
        refine wp_store_blk 79 _ _ rfl w5.heap.size 79 _ (cva ch) hv5 rfl rfl rfl (by kernel_rfl) (by simp [cva, Value.oneCell']) ?_
        intro w6 hv6 ht6
        have hq6 := hq5a.grown (tn_grown ht6) (fun e => by injection e with e; omega)
        have hHd := hH5.first hWd (Nat.le_trans hBw hb34) (Nat.lt_of_lt_of_le hbl hb34) _ rfl rfl hv6 (tn_grown ht6)
        refine hK.out _ _ ⟨hq6.cell rfl, hq6.cell rfl, hq6.cell rfl, hq6.cell rfl⟩ (fun _ => ?_)
        clear hK K
        try simp only [Act.put, List.getElem_toArray, List.getElem_cons_zero, List.getElem_cons_succ, List.setIfInBounds_toArray, List.set_cons_zero, List.set_cons_succ]
        generalize hqv : w5.heap.size = qv at hHd hv6 ht6 ⊢
        refine wpAnyH_done (by kernel_rfl) ?_ _
        refine NoPanic.normal ?_
        rotate_left
        rw [if_pos (by kernel_rfl)]
        go_simp
        refine hK.out _ _ ⟨hq3a.cell rfl, hq3a.cell rfl, hq3a.cell rfl, hq3a.cell rfl⟩ (fun _ => ?_)
        clear hK K
        try simp only [Act.put, List.getElem_toArray, List.getElem_cons_zero, List.getElem_cons_succ, List.setIfInBounds_toArray, List.set_cons_zero, List.set_cons_succ]
        refine wpAnyH_ready (rs := [4]) (by kernel_rfl) (by simp) (AllReadyH.cons (o := _) rfl (fun K hK => ?_) AllReadyH.nil)
        rw [if_pos (by kernel_rfl)]
        refine wp_fn 41 _ _ rfl _ rfl enters_hold (hhold _ hWa) ?_
        rintro e w5 ⟨uv5, ch, rfl, hH5⟩
        refine ⟨_, rfl, ?_⟩
        have hs5 : w3.heap.size ≤ w5.heap.size := Nat.le_trans hb3a.size hH5.fr.size
        have hq5 := hH5.fr.blk _ _ _ (show Blk w3a.drew w.heap.size 31 _ from hq3a) hqn hfop
        have hv5 := hH5.fr.blk _ _ _ (show Blk w3a.drew w3.heap.size 79 _ from hv3) hvn fot_change
        refine hK.out _ _ ⟨hq5.cell rfl, hq5.cell rfl, hq5.cell rfl, hq5.cell rfl⟩ (fun _ => ?_)
        clear hK K
        try simp only [Act.put, List.getElem_toArray, List.getElem_cons_zero, List.getElem_cons_succ, List.setIfInBounds_toArray, List.set_cons_zero, List.set_cons_succ]
        refine wpAnyH_ready (rs := [6]) (by kernel_rfl) (by simp) (AllReadyH.cons (o := _) rfl (fun K hK => ?_) AllReadyH.nil)
        rw [if_pos (by kernel_rfl)]
        refine wp_store_blk 79 _ _ rfl w3.heap.size 79 _ (cva ch) hv5 rfl rfl rfl (by kernel_rfl) (by simp [cva, Value.oneCell']) ?_
        intro w6 hv6 ht6
        have hq6 := hq5.grown (tn_grown ht6) (fun e => by injection e with e; omega)
        have hHd := hH5.second hWa (Nat.le_trans hBw hb34) (Nat.lt_of_lt_of_le hbl hb34) (fun j hj => Nat.lt_of_lt_of_le (huv j hj) hb34) (Nat.le_refl _) hv3 hv6 (tn_grown ht6)
        refine hK.out _ _ ⟨hq6.cell rfl, hq6.cell rfl, hq6.cell rfl, hq6.cell rfl⟩ (fun _ => ?_)
        clear hK K
        try simp only [Act.put, List.getElem_toArray, List.getElem_cons_zero, List.getElem_cons_succ, List.setIfInBounds_toArray, List.set_cons_zero, List.set_cons_succ]
        generalize hqv : w3.heap.size = qv at hHd hv6 ht6 ⊢
        refine wpAnyH_done (by kernel_rfl) ?_ _
        refine NoPanic.normal ?_
        all_goals (
          clear hqv hhold hq6 ht6 hH5 hq5 hs5
          have hl64 : o.data.length ≤ 64 := by
            obtain ⟨hok9, -, -⟩ := ok_of_right hrt
            rcases hok9.form with ⟨-, -, q⟩ | ⟨-, q⟩
            · exact q
            · rw [q]; simp
          have hlow := hHd.low
          have hqb : qv ≠ b := by omega
          have hBw3 : B ≤ w3.heap.size := Nat.le_trans hBw hb34
          have h2a : (sha b s { k with uv := uv5 })[1 + 1]? = some (.pointer (some ⟨k.f, 0, none⟩)) := rfl
          have hls : k.ls.length < 3000 := by have := hok.few; have := Hln.out; omega
          have hdo := gdo_ w6.drew B s.n k.f b 1 65 (sha b s { k with uv := uv5 }) _ uv5 (k.u ++ o.data) k.ls hHd.blk (hHd.gm.drewN 1) h2a fot_shard (Nat.le_trans hBw3 hHd.fr.size) k.now s.now (h3.r.now.units h3.r.gm.gd o.data) ch o hHd.cho hls
          have hvd := hHd.var
          have v0 := hvd.cell (j := 0) (u := .int .i64 ch.kind) rfl
          have v1 := hvd.cell (j := 1) (u := .int .i64 ch.x.off) rfl
          have v2 := hvd.cell (j := 2) (u := .int .i64 ch.x.len) rfl
          have v3 := hvd.cell (j := 3) (u := .int .i64 ch.x.phys) rfl
          have v4 := hvd.cell (j := 4) (u := .int .i64 ch.x.birth) rfl
          go_wp2_with fail
          refine wp_region_noPanic ?_
          refine wp_region_held_drew (S := fun w' => w'.cell? ⟨qv, 0, none⟩ = some (.int .i64 ch.kind) ∧ w'.cell? ⟨qv, 1, none⟩ = some (.int .i64 ch.x.off) ∧ w'.cell? ⟨qv, 2, none⟩ = some (.int .i64 ch.x.len) ∧ w'.cell? ⟨qv, 3, none⟩ = some (.int .i64 ch.x.phys) ∧ w'.cell? ⟨qv, 4, none⟩ = some (.int .i64 ch.x.birth)) (by kernel_rfl) ⟨v0, v1, v2, v3, v4⟩ (fun _ => ?_)
          refine wpAnyH_take (i := 0) (oi := _) (v := ?_) rfl (by kernel_rfl) (by kernel_rfl) (by kernel_rfl) (fun _ _ _ h => h) (Or.inl ⟨by kernel_rfl, ?_⟩) ⟨v0, v1, v2, v3, v4⟩ ?_
          rotate_left
          · (rintro w ⟨s0, s1, s2, s3, s4⟩; go_simp; (first | done | rfl))
          try simp only [Act.put, List.getElem_toArray, List.getElem_cons_zero, List.getElem_cons_succ, List.setIfInBounds_toArray, List.set_cons_zero, List.set_cons_succ]
          refine wpAnyH_take (i := 1) (oi := _) (v := ?_) rfl (by kernel_rfl) (by kernel_rfl) (by kernel_rfl) (fun _ _ _ h => h) (Or.inl ⟨by kernel_rfl, ?_⟩) ⟨v0, v1, v2, v3, v4⟩ ?_
          rotate_left
          · (rintro w ⟨s0, s1, s2, s3, s4⟩; go_simp; (first | done | rfl))
          try simp only [Act.put, List.getElem_toArray, List.getElem_cons_zero, List.getElem_cons_succ, List.setIfInBounds_toArray, List.set_cons_zero, List.set_cons_succ]
          refine wpAnyH_take (i := 2) (oi := _) (v := ?_) rfl (by kernel_rfl) (by kernel_rfl) (by kernel_rfl) (fun _ _ _ h => h) (Or.inl ⟨by kernel_rfl, ?_⟩) ⟨v0, v1, v2, v3, v4⟩ ?_
          rotate_left
          · (rintro w ⟨s0, s1, s2, s3, s4⟩; go_simp; (first | done | rfl))
          try simp only [Act.put, List.getElem_toArray, List.getElem_cons_zero, List.getElem_cons_succ, List.setIfInBounds_toArray, List.set_cons_zero, List.set_cons_succ]
          refine wpAnyH_take (i := 3) (oi := _) (v := ?_) rfl (by kernel_rfl) (by kernel_rfl) (by kernel_rfl) (fun _ _ _ h => h) (Or.inl ⟨by kernel_rfl, ?_⟩) ⟨v0, v1, v2, v3, v4⟩ ?_
          rotate_left
          · (rintro w ⟨s0, s1, s2, s3, s4⟩; go_simp; (first | done | rfl))
          try simp only [Act.put, List.getElem_toArray, List.getElem_cons_zero, List.getElem_cons_succ, List.setIfInBounds_toArray, List.set_cons_zero, List.set_cons_succ]
          refine wpAnyH_take (i := 4) (oi := _) (v := ?_) rfl (by kernel_rfl) (by kernel_rfl) (by kernel_rfl) (fun _ _ _ h => h) (Or.inl ⟨by kernel_rfl, ?_⟩) ⟨v0, v1, v2, v3, v4⟩ ?_
          rotate_left
          · (rintro w ⟨s0, s1, s2, s3, s4⟩; go_simp; (first | done | rfl))
          try simp only [Act.put, List.getElem_toArray, List.getElem_cons_zero, List.getElem_cons_succ, List.setIfInBounds_toArray, List.set_cons_zero, List.set_cons_succ]
          refine wpAnyH_take (i := 5) (oi := _) (v := ?_) rfl (by kernel_rfl) (by kernel_rfl) (by kernel_rfl) (fun _ _ _ h => h) (Or.inl ⟨by kernel_rfl, ?_⟩) ⟨v0, v1, v2, v3, v4⟩ ?_
          rotate_left
          · (rintro w ⟨s0, s1, s2, s3, s4⟩; go_simp; (first | done | rfl))
          try simp only [Act.put, List.getElem_toArray, List.getElem_cons_zero, List.getElem_cons_succ, List.setIfInBounds_toArray, List.set_cons_zero, List.set_cons_succ]
          refine wpAnyH_take (i := 6) (oi := _) (v := ?_) rfl (by kernel_rfl) (by kernel_rfl) (by kernel_rfl) (fun _ _ _ h => h) (Or.inl ⟨by kernel_rfl, ?_⟩) ⟨v0, v1, v2, v3, v4⟩ ?_
          rotate_left
          · (rintro w ⟨s0, s1, s2, s3, s4⟩; go_simp; (first | done | rfl))
          try simp only [Act.put, List.getElem_toArray, List.getElem_cons_zero, List.getElem_cons_succ, List.setIfInBounds_toArray, List.set_cons_zero, List.set_cons_succ]
          refine wpAnyH_take (i := 8) (oi := _) (v := ?_) rfl (by kernel_rfl) (by kernel_rfl) (by kernel_rfl) (fun _ _ _ h => h) (Or.inl ⟨by kernel_rfl, ?_⟩) ⟨v0, v1, v2, v3, v4⟩ ?_
          rotate_left
          · (rintro w ⟨s0, s1, s2, s3, s4⟩; go_simp; (first | done | rfl))
          try simp only [Act.put, List.getElem_toArray, List.getElem_cons_zero, List.getElem_cons_succ, List.setIfInBounds_toArray, List.set_cons_zero, List.set_cons_succ]
          refine wpAnyH_ready (rs := [7]) (by kernel_rfl) (by simp) (AllReadyH.cons (o := _) rfl (fun K hK => ?_) AllReadyH.nil)
          rw [if_pos (by kernel_rfl)]
          have n4 : w6.drew.cell? ⟨b, 4, none⟩ = some (.int .i64 (k.now : Int)) := hHd.blk.cell rfl
          go_simp
          refine hK.out _ _ ⟨v0, v1, v2, v3, v4⟩ (fun _ => ?_)
          clear hK K
          try simp only [Act.put, List.getElem_toArray, List.getElem_cons_zero, List.getElem_cons_succ, List.setIfInBounds_toArray, List.set_cons_zero, List.set_cons_succ]
          refine wpAnyH_ready (rs := [9]) (by kernel_rfl) (by simp) (AllReadyH.cons (o := _) rfl (fun K hK => ?_) AllReadyH.nil)
          rw [if_pos (by kernel_rfl)]
          refine wp_fn 34 _ _ rfl _ rfl enters_do hdo ?_
          rintro e w7 ⟨q', rfl, hD⟩
          refine ⟨_, rfl, ?_⟩
          have hv7 := hD.ty.block _ _ _ (show Blk w6.drew qv 79 _ from hvd) fot_change
          have b7 := hD.ty.block _ _ _ (show Blk w6.drew b 65 _ from hHd.blk) fot_shard
          have n47 := b7.cell (j := 4) (u := .int .i64 (k.now : Int)) rfl
          have nf7 := b7.free 4
          refine hK.out _ _ ⟨hv7.cell rfl, hv7.cell rfl, hv7.cell rfl, hv7.cell rfl, hv7.cell rfl⟩ (fun _ => ?_)
          clear hK K
          try simp only [Act.put, List.getElem_toArray, List.getElem_cons_zero, List.getElem_cons_succ, List.setIfInBounds_toArray, List.set_cons_zero, List.set_cons_succ]
          refine wpAnyH_take (i := 10) (oi := _) (v := ?_) rfl (by kernel_rfl) (by kernel_rfl) (by kernel_rfl) (fun _ _ _ h => h) (Or.inl ⟨by kernel_rfl, ?_⟩) ⟨hv7.cell rfl, hv7.cell rfl, hv7.cell rfl, hv7.cell rfl, hv7.cell rfl⟩ ?_
          rotate_left
          · (rintro w ⟨s0, s1, s2, s3, s4⟩; go_simp; (first | done | rfl))
          try simp only [Act.put, List.getElem_toArray, List.getElem_cons_zero, List.getElem_cons_succ, List.setIfInBounds_toArray, List.set_cons_zero, List.set_cons_succ]
          refine wpAnyH_take (i := 11) (oi := _) (v := ?_) rfl (by kernel_rfl) (by kernel_rfl) (by kernel_rfl) (fun _ _ _ h => h) (Or.inl ⟨by kernel_rfl, ?_⟩) ⟨hv7.cell rfl, hv7.cell rfl, hv7.cell rfl, hv7.cell rfl, hv7.cell rfl⟩ ?_
          rotate_left
          · (rintro w ⟨s0, s1, s2, s3, s4⟩; go_simp; (first | done | rfl))
          try simp only [Act.put, List.getElem_toArray, List.getElem_cons_zero, List.getElem_cons_succ, List.setIfInBounds_toArray, List.set_cons_zero, List.set_cons_succ]
          refine wpAnyH_ready (rs := [12]) (by kernel_rfl) (by simp) (AllReadyH.cons (o := _) rfl (fun K hK => ?_) AllReadyH.nil)
          rw [if_pos (by kernel_rfl)]
          have hv8 := hv7.grown (grown_setCell w7 ⟨b, 4, none⟩ (.int .i64 (k.ls.length : Int))) (fun e => by injection e with e; exact hqb e)
          go_simp
          refine hK.out _ _ ⟨hv8.cell rfl, hv8.cell rfl, hv8.cell rfl, hv8.cell rfl, hv8.cell rfl⟩ (fun _ => ?_)
          clear hK K
          try simp only [Act.put, List.getElem_toArray, List.getElem_cons_zero, List.getElem_cons_succ, List.setIfInBounds_toArray, List.set_cons_zero, List.set_cons_succ]
          refine wpAnyH_done (by kernel_rfl) ?_ _
          refine NoPanic.normal ?_
          have hg8 := grown_setCell w7 ⟨b, 4, none⟩ (.int .i64 (k.ls.length : Int))
          have b8 := b7.setCell 4 (.int .i64 (k.ls.length : Int))
          have o6 := own_fr h3.r.orow hHd.fr (fun g hg e => by
            obtain ⟨cs, q⟩ := own_blk2 h3.r.orow hg
            rcases e with e | e
            · subst e; exact absurd (blk_type h3.blk q) (by decide)
            · exact own_ne h3.r.gm.row h3.r.orow (by decide) e hg) fot_change
          have o7 := own_ty hD.ty fot_change (show w6.drew.ownsRow B 79 5 k.ov k.oc.length (cvs k.oc) from o6)
          have o8 := own_set_ne b7 o7 (by decide) 4 (.int .i64 (k.ls.length : Int))
          obtain ⟨w8, hw8⟩ : ∃ w8, w7.setCell ⟨b, 4, none⟩ (.int .i64 (k.ls.length : Int)) = w8 := ⟨_, rfl⟩
          rw [hw8] at hv8 hg8 b8 o8
          have hoc : k.oc.length = ln := by rw [h3.r.ops.length]; exact Hln.out
          obtain ⟨OA9, oc9, hov9, -, -, -⟩ := own_form o8
          rw [hov9, hoc] at o8
          have y6 : w8.cell? ⟨b, 6, none⟩ = some (.slice OA9 ln oc9) := by rw [← hoc, ← hov9]; exact b8.cell rfl
          have v0 := hv8.cell (j := 0) (u := .int .i64 ch.kind) rfl
          have v1 := hv8.cell (j := 1) (u := .int .i64 ch.x.off) rfl
          have v2 := hv8.cell (j := 2) (u := .int .i64 ch.x.len) rfl
          have v3 := hv8.cell (j := 3) (u := .int .i64 ch.x.phys) rfl
          have v4 := hv8.cell (j := 4) (u := .int .i64 ch.x.birth) rfl
          obtain ⟨w8a, hw8a⟩ : ∃ w8a, w8.alloc (.cells #[.int .i64 ch.kind, .int .i64 ch.x.off, .int .i64 ch.x.len, .int .i64 ch.x.phys, .int .i64 ch.x.birth] 79) = w8a := ⟨_, rfl⟩
          have hb8a : Below w8.heap.size w8 (w8.alloc (.cells #[.int .i64 ch.kind, .int .i64 ch.x.off, .int .i64 ch.x.len, .int .i64 ch.x.phys, .int .i64 ch.x.birth] 79)) := (Below.refl _ _).alloc (Nat.le_refl _) _
          have hrd8 : Rd (w8.alloc (.cells #[.int .i64 ch.kind, .int .i64 ch.x.off, .int .i64 ch.x.len, .int .i64 ch.x.phys, .int .i64 ch.x.birth] 79)) (some ⟨w8.heap.size, 0, none⟩) 5 1 (cvl ch) := Rd.new w8 (cva ch) 79 (0, 0) rfl
          rw [hw8a] at hb8a hrd8
          have o8a := own_keep o8 hb8a
          have b8a := b8.keep hb8a
          have x6 := b8a.cell (j := 6) (u := .slice OA9 ln oc9) (by rw [← hoc, ← hov9]; rfl)
          have vv := hv8.keep hb8a
          have x0 := vv.cell (j := 0) (u := .int .i64 ch.kind) rfl
          have x1 := vv.cell (j := 1) (u := .int .i64 ch.x.off) rfl
          have x2 := vv.cell (j := 2) (u := .int .i64 ch.x.len) rfl
          have x3 := vv.cell (j := 3) (u := .int .i64 ch.x.phys) rfl
          have x4 := vv.cell (j := 4) (u := .int .i64 ch.x.birth) rfl
          have hB8 : B ≤ w8a.heap.size := Nat.le_trans (Nat.le_trans (Nat.le_trans (Nat.le_trans hBw3 hHd.fr.size) (show w6.heap.size ≤ w7.heap.size from hD.bel.size)) (show w7.heap.size ≤ w8.heap.size from hg8.size)) hb8a.size
          obtain ⟨i0, hi0, hz0, hz1, hz2⟩ := chg_info
          have Hz := Lib.hid hz2
          have Hoc := Lib.hid hoc
          have Hov := Lib.hid hov9
          have hfewo := hok.few
          rw [Hln.out] at hfewo
          clear hz2 hoc hov9 hdo hv7 n47 nf7 n4
          rw [hw8]
          have hone : ∀ u ∈ cvl ch, u.oneCell' = true := fun u hu => cvs_one [ch] u (by simpa [cvs] using hu)
          have hmx : ln + 1 ≤ maxLen := by unfold maxLen; omega
          have hby : (ln + 1) * 40 ≤ 140737488355328 := by omega
          have hsz5 : 0 < 5 := by decide
          have hnn : (some ⟨w8.heap.size, 0, none⟩ : Option Addr) = none → 1 = 0 := fun h => by cases h
          have hty : 65 ≠ 79 := by decide
          go_wp2_with fail
          go_region_law (
            refine step_app _ rfl (.tmp 52) (.tmp 54) _ rfl B 79 i0 _ 5 40 Try.underlying62 hi0 hz0 hz1 Hz.out rfl hsz5 _ ln _ rfl o8a (some ⟨w8.heap.size, 0, none⟩) 1 1 (cvl ch) rfl hnn hrd8 hone hmx hby hB8 ?_
            intro v9 w9 hown9 hg9 hat9
            obtain ⟨A9, c9, rfl, -, -, -⟩ := own_form hown9
            have hg9' : w8a.grownBy w9 (Value.slice OA9 ln oc9).ownBlock := ⟨hg9.os, hg9.tape, hg9.output, hg9.size, hg9.block⟩
            have b9 := blk_row b8a o8a hg9' hty
            have z6 := b9.cell (j := 6) (u := k.ov) rfl
            have z7 := b9.free 6)
          all_goals (
            have hg9r : w8a.grownBy w9 k.ov.ownBlock := by rw [Hov.out, Hoc.out]; exact hg9'
            have hat9' : (Value.slice A9 (ln + 1) c9).ownBlock = (Value.slice OA9 ln oc9).ownBlock ∨ (Value.slice A9 (ln + 1) c9).ownBlock = some w8a.heap.size := hat9
            have hat9r : (Value.slice A9 (ln + 1) c9).ownBlock = k.ov.ownBlock ∨ (Value.slice A9 (ln + 1) c9).ownBlock = some w8a.heap.size := by rw [Hov.out, Hoc.out]; exact hat9'
            have hown9r : w9.ownsRow B 79 5 (.slice A9 (ln + 1) c9) (k.oc.length + 1) (cvs k.oc ++ cvl ch) := by rw [Hoc.out]; exact hown9
            have hDb : Gdo w6 w7 B _ s.n k.f uv5 (k.u ++ o.data) k.ls (apv s.now o) q' := hD.back (below_drewN (Below.refl _ _) 1) (Nat.le_trans hBw3 hHd.fr.size)
            have hfin := h3.did hHd hDb hw8 hw8a hown9r hg9r hat9r rfl hok2 hl64 (by rw [Hln.out]; exact ht)
            clear hHd hD hDb hown9 hg9 hat9 hown9r hg9r hat9r o8a o8 o7 o6
            go_wp2
            go_ret
            exact ⟨rfl, Nx.below hb0 hBw (Nx.below hb4 h00.base hfin)⟩))
end
end Sha
end Go.Proofs.Ytfcfffilfmbpeaa
