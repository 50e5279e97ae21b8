/- Layer 12: Snap. -/
import Derived.Test.YtfcfffilfmbpeaaShaF
set_option linter.all false
namespace Go.Proofs.Ytfcfffilfmbpeaa
open Go.RowKit Go.Maps
namespace Sha
open Blo (vol fun_ GotN AnsN Dat FitB)

theorem gm_map {w w' : World} {B n f mb c' : Nat} {U : Nat → Prop} {uv : Value} {u : List Nat} {ls : List Root} {c : Int → Option Int} (h : Gm w B U n f uv u ls) (hm : Mp w mb c' c) (hg : w.grownBy w' (some mb)) : Gm w' B U n f uv u ls :=
  ⟨own_grown h.row hg (fun j hj e => by injection e with e; subst e; exact hm.apartO h.row hj), h.fo.ty (hm.ty hg) (by simp) (by simp) (by simp), h.gd, h.out⟩
/-- A row of another type, where a row is appended to. -/
theorem gm_row {w w' : World} {B n f : Nat} {U : Nat → Prop} {uv : Value} {u : List Nat} {ls : List Root} (h : Gm w B U n f uv u ls) {B2 : Nat} {e : TypeId} {sz m : Nat} {v : Value} {xs : List Value} (hv : w.ownsRow B2 e sz v m xs) (hg : w.grownBy w' v.ownBlock) (h0 : e ≠ 48) (h1 : e ≠ 106) (h2 : e ≠ 103) (h3 : e ≠ 126) : Gm w' B U n f uv u ls :=
  ⟨own_grown h.row hg (fun j hj e' => own_ne h.row hv (fun q => h0 q.symm) hj e'.symm), Fo.grownN h.fo hg (fun g hg => own_blk2 hv hg) h1 h2 h3, h.gd, h.out⟩
theorem blk_row {w w' : World} {b : Nat} {t : TypeId} {cs : Array Value} (h : Blk w b t cs) {B2 : Nat} {e : TypeId} {sz m : Nat} {v : Value} {xs : List Value} (hv : w.ownsRow B2 e sz v m xs) (hg : w.grownBy w' v.ownBlock) (ht : t ≠ e) : Blk w' b t cs :=
  h.grown hg fun q => by obtain ⟨cs', k⟩ := own_blk2 hv q.symm; exact ht (blk_type h k)
theorem map_row {w w' : World} {mb k : Nat} {c : Int → Option Int} (h : Mp w mb k c) {B2 : Nat} {e : TypeId} {sz m : Nat} {v : Value} {xs : List Value} (hv : w.ownsRow B2 e sz v m xs) (hg : w.grownBy w' v.ownBlock) : Mp w' mb k c :=
  h.kept hg fun q => h.apartO hv q.symm
theorem own_row2 {w w' : World} {B1 B2 : Nat} {e1 e2 : TypeId} {s1 s2 m1 m2 : Nat} {v1 v2 : Value} {x1 x2 : List Value} (h : w.ownsRow B1 e1 s1 v1 m1 x1) (hv : w.ownsRow B2 e2 s2 v2 m2 x2) (hg : w.grownBy w' v2.ownBlock) (ht : e1 ≠ e2) : w'.ownsRow B1 e1 s1 v1 m1 x1 :=
  own_grown h hg fun j hj e' => own_ne h hv ht hj e'.symm
theorem own_map {w w' : World} {mb k : Nat} {c : Int → Option Int} (hm : Mp w mb k c) (hg : w.grownBy w' (some mb)) {B : Nat} {e : TypeId} {sz n : Nat} {v : Value} {xs : List Value} (h : w.ownsRow B e sz v n xs) : w'.ownsRow B e sz v n xs :=
  own_grown h hg fun j hj e => by injection e with e; subst e; exact hm.apartO h hj
theorem own_set_ne {w : World} {b : Nat} {t : TypeId} {cs : Array Value} (hb : Blk w b t cs) {B : Nat} {e : TypeId} {sz n : Nat} {v : Value} {xs : List Value} (h : w.ownsRow B e sz v n xs) (ht : t ≠ e) (o : Nat) (u : Value) : (w.setCell ⟨b, o, none⟩ u).ownsRow B e sz v n xs :=
  own_grown h (grown_setCell _ _ _) fun j hj q => by
    injection q with q
    subst q
    obtain ⟨cs', k⟩ := own_blk2 h hj
    exact ht (blk_type hb k)
/-- A snapshot more. -/
theorem ShX.snap {w w2 w2a w3 w4 : World} {B b : Nat} {U : Nat → Prop} {s : SS} {k : CS} {id : Int} {o : Obj} {v3 : Value} (h : ShX w B U b s k) (hm : Mp w2 k.mb (k.roots.length + 1) (rootOf (k.roots ++ [(id, k.now)]))) (hg2 : w.grownBy w2 (some k.mb)) (h2a : w2.alloc o = w2a)
    (hown3 : w3.ownsRow B 3 1 v3 (k.roots.length + 1) (ivs (k.roots.map Prod.fst) ++ [.int .i64 id])) (hg3 : w2a.grownBy w3 k.rv.ownBlock) (hat3 : v3.ownBlock = k.rv.ownBlock ∨ v3.ownBlock = some w2a.heap.size) (hw4 : w3.setCell ⟨b, 8, none⟩ v3 = w4)
    (hok : Ok { s with snaps := s.snaps ++ [(id, s.now)] }) (ht : k.ls.length ≤ 257 + s.opn.length) : Nx w w4 B U b { s with snaps := s.snaps ++ [(id, s.now)] } := by
  have hba : Below w2.heap.size w2 w2a := by rw [← h2a]; exact (Below.refl _ _).alloc (Nat.le_refl _) _
  have hs2 : w.heap.size ≤ w2.heap.size := hg2.size
  have hs2a : w2.heap.size ≤ w2a.heap.size := hba.size
  have hs3 : w2a.heap.size ≤ w3.heap.size := hg3.size
  have hr := h.r
  have hbl := h.blk.lt
  have r2 : w2a.ownsRow B 3 1 k.rv k.roots.length (ivs (k.roots.map Prod.fst)) := own_keep (own_map hr.map hg2 hr.rrow) hba
  have b2 : Blk w2a b 65 (sha b s k) := (h.blk.grown hg2 fun e => by injection e with e; exact hr.map.apart h.blk e).keep hba
  have b3 := blk_row b2 r2 hg3 (by decide)
  have b4 := b3.setCell 8 v3
  have hg4 := grown_setCell w3 ⟨b, 8, none⟩ v3
  rw [hw4] at b4 hg4
  have hs4 : w3.heap.size ≤ w4.heap.size := hg4.size
  have g3 := gm_row ((gm_map hr.gm hr.map hg2).below hba) r2 hg3 (by decide) (by decide) (by decide) (by decide)
  have g4 := g3.grown hg4 b3 (g3.apart b3 (by decide)) (by decide) (by decide) (by decide)
  have o3 := own_row2 (own_keep (own_map hr.map hg2 hr.orow) hba) r2 hg3 (by decide)
  have o4 := own_set_ne b3 o3 (by decide) 8 v3
  have r4 := own_set_ne b3 hown3 (by decide) 8 v3
  rw [hw4] at o4 r4
  have m3 := map_row (hm.below hba) r2 hg3
  have m4 := m3.kept hg4 fun e => by injection e with e; exact m3.apart b3 e.symm
  have hBw : B ≤ w.heap.size := Nat.le_trans hr.base (Nat.le_of_lt hbl)
  have hF : Fr B U w w4 := (((Fr.grown hg2 hBw fun j hj => by injection hj with hj; subst hj; exact ⟨(hr.ulow _ hr.mout).1, hr.mout⟩).then (U' := fun _ => False) (Fr.ofBelow hba (by omega)) fun j hj => hj.elim).then (U' := U) (Fr.grown hg3 (by omega) fun j hj => ⟨(hr.ulow j (hr.rout j hj)).1, hr.rout j hj⟩) fun j hj => .inl hj).then (U' := U) (Fr.grown hg4 (by omega) fun j hj => by injection hj with hj; subst hj; exact ⟨hr.base, hr.ub⟩) fun j hj => .inl hj
  refine ⟨⟨{ k with rv := v3, roots := k.roots ++ [(id, k.now)] }, ⟨b4, ?_⟩, ht⟩, hF⟩
  exact {
    gm := g4.sub fun j _ hj => .inl hj
    base := hr.base
    ub := .inl hr.ub
    ulow := gr_low hr.ulow hBw (by omega)
    spare := hr.spare
    zero := hr.zero
    now := hr.now
    sure := hr.sure
    orow := o4
    oout := fun g hg => .inl (hr.oout g hg)
    ops := hr.ops
    rrow := by
      have e1 : ivs ((k.roots ++ [(id, k.now)]).map Prod.fst) = ivs (k.roots.map Prod.fst) ++ [.int .i64 id] := by simp [ivs]
      have e2 : (k.roots ++ [(id, k.now)]).length = k.roots.length + 1 := by simp
      show w4.ownsRow B _ 1 v3 (k.roots ++ [(id, k.now)]).length (ivs ((k.roots ++ [(id, k.now)]).map Prod.fst))
      rw [e1, e2]
      exact r4
    rout := fun g hg => by
      rcases hat3 with e | e
      · exact .inl (hr.rout g (by rw [← e]; exact hg))
      · have hg' : v3.ownBlock = some g := hg
        rw [hg'] at e
        injection e with e
        have := (hown3.lt g hg').2
        exact .inr ⟨by omega, by omega⟩
    map := by
      have e2 : (k.roots ++ [(id, k.now)]).length = k.roots.length + 1 := by simp
      show Mp w4 k.mb (k.roots ++ [(id, k.now)]).length _
      rw [e2]
      exact m4
    mout := .inl hr.mout
    snaps := hr.snaps.snoc ⟨rfl, hr.now⟩
    ok := hok }
theorem root_snoc {l : List (Int × Nat)} {id : Int} {r : Nat} (h : (rootOf l id).isSome = false) (j : Int) : rootOf (l ++ [(id, r)]) j = if j = id then some (r : Int) else rootOf l j := by
  unfold rootOf at h ⊢
  rw [List.find?_append]
  by_cases e : j = id
  · subst e
    rw [if_pos rfl]
    cases hf : l.find? (fun q => decide (q.1 = j)) with
    | none => simp
    | some q => rw [hf] at h; simp at h
  · rw [if_neg e, List.find?_cons_of_neg (by simpa using fun q => e q.symm)]
    simp
section
variable (w : World) (B b : Nat) (U : Nat → Prop) (s : SS)
set_option maxRecDepth 100000 in
set_option maxHeartbeats 2000000 in
theorem snap_ (id : Int) (hi : I64 id) (h : Sh w B U b s) : Calls Try.prog 24 #[.pointer (some ⟨b, 0, none⟩), .int .i64 id] w fun e w' => e = .returned (.int .i64 (snE s id)) ∧ Nx w w' B U b (snS s id) := by
  have hR := Nx.refl h
  have hU := h.ulow
  have hBw := h.base
  have hok := h.ok
  have hok' := hok.snS (id := id) (by unfold I64 at hi; omega)
  obtain ⟨k, h, -⟩ := h
  obtain ⟨RA, rc, hrv, hr1, hr2, hr3⟩ := own_form h.r.rrow
  have hsl := h.r.snaps.length
  have c8 : w.cell? ⟨b, 8, none⟩ = some (.slice RA s.snaps.length rc) := by rw [← hsl, ← hrv]; exact h.cell rfl
  have c4 := h.cell (j := 4) (u := .int .i64 (k.now : Int)) rfl
  have hmade := h.made
  have hhas := has_ w B b U s h id hi
  have hst := settle_ w B b U s k h k.now s.now h.r.now
  have hfew2 := hok.few2
  clear h hrv hr1 hr3
  have hE1 : id < 1 → snE s id = 1 := fun h1 => by unfold snE; rw [if_pos h1]
  have hE2 : ¬ id < 1 → hasS s id = true → snE s id = 10 := fun h1 h2 => by unfold snE; rw [if_neg h1, if_pos h2]
  have hE3 : ¬ id < 1 → hasS s id = false → s.snaps.length = 32 → snE s id = 6 := fun h1 h2 h3 => by unfold snE; rw [if_neg h1, h2, if_neg (by decide), if_pos h3]
  have hE4 : ¬ id < 1 → hasS s id = false → ¬ s.snaps.length = 32 → snE s id = 0 := fun h1 h2 h3 => by unfold snE; rw [if_neg h1, h2, if_neg (by decide), if_neg h3]
  have hS : ∀ x : Int, snE s id = x → x ≠ 0 → snS s id = s := fun x h1 h2 => by unfold snS; rw [h1, if_neg h2]
  have hS0 : snE s id = 0 → snS s id = { setS s s.now with snaps := s.snaps ++ [(id, s.now)] } := fun h1 => by unfold snS; rw [if_pos h1]
  generalize hln : s.snaps.length = ln at *
  have Hln := Lib.hid hln
  clear hln hsl
  by_cases h1 : id < 1
  · rw [hE1 h1, hS _ (hE1 h1) (by decide)]
    go_enter Try.func24, Try.ntmps24
    go_wp2_with fail
    refine hmade.mono ?_
    rintro e w' ⟨rfl, rfl⟩
    go_wp2
    go_ret
    exact ⟨rfl, hR⟩
  · cases hh : hasS s id with
    | true =>
      rw [hh] at hhas
      rw [hE2 h1 hh, hS _ (hE2 h1 hh) (by decide)]
      clear hE1 hE2 hE3 hE4 hS hS0 hst hok'
      go_enter Try.func24, Try.ntmps24
      go_wp2_with fail
      refine hmade.mono ?_
      rintro e w' ⟨rfl, rfl⟩
      go_wp2_with fail
      refine hhas.mono ?_
      rintro e w' ⟨rfl, rfl⟩
      go_wp2
      go_ret
      exact ⟨rfl, hR⟩
    | false =>
      rw [hh] at hhas
      by_cases h32 : ln = 32
      · rw [hE3 h1 hh h32, hS _ (hE3 h1 hh h32) (by decide)]
        have h32i : ((ln : Int) == 32) = true := by simp [h32]
        clear hE1 hE2 hE3 hE4 hS hS0 hst hok'
        go_enter Try.func24, Try.ntmps24
        go_wp2_with fail
        refine hmade.mono ?_
        rintro e w' ⟨rfl, rfl⟩
        go_wp2_with fail
        refine hhas.mono ?_
        rintro e w' ⟨rfl, rfl⟩
        go_wp2
        go_ret
        exact ⟨rfl, hR⟩
      · rw [hS0 (hE4 h1 hh h32)] at hok' ⊢
        rw [hE4 h1 hh h32]
        have h32i : ((ln : Int) == 32) = false := by simp; omega
        clear hE1 hE2 hE3 hE4 hS hS0
        go_enter Try.func24, Try.ntmps24
        go_wp2_with fail
        refine hmade.mono ?_
        rintro e w' ⟨rfl, rfl⟩
        go_wp2_with fail
        refine hhas.mono ?_
        rintro e w' ⟨rfl, rfl⟩
        go_wp2_with fail
        refine hst.mono ?_
        rintro e w1 ⟨rfl, hN⟩
        obtain ⟨k1, hX, ht1⟩ := hN.sh
        have hN1 := hN.fr
        have hsn1 := hX.r.snaps
        have Hlen1 := Lib.hid (show k1.roots.length = ln by rw [hsn1.length]; exact Hln.out)
        have hroot : (rootOf k1.roots id).isSome = false := by rw [has_root hsn1 id]; exact hh
        have hnowlt : k1.now < 3000 := Nat.lt_of_lt_of_le hX.r.now.lt hX.r.gm.gd.few
        have hstore := hX.drew.r.map.store (c' := rootOf (k1.roots ++ [(id, k1.now)])) (by rw [Hlen1.out]; omega) hi (by unfold I64; omega) (root_snoc hroot)
        rw [hroot, if_neg (by decide)] at hstore
        obtain ⟨w2, hmu, hm2, hg2⟩ := hstore
        have d7 := hX.cell (j := 7) (u := .map (some k1.mb)) rfl
        have d4 := hX.cell (j := 4) (u := .int .i64 (k1.now : Int)) rfl
        have b2 : Blk w2 b 65 (sha b (setS s s.now) k1) := hX.drew.blk.grown hg2 fun e => by injection e with e; exact hX.drew.r.map.apart hX.drew.blk e
        have e7 := b2.cell (j := 7) (u := .map (some k1.mb)) rfl
        have e4 := b2.cell (j := 4) (u := .int .i64 (k1.now : Int)) rfl
        go_wp2_with fail
        go_region_held3 (fun w' => w'.cell? ⟨b, 7, none⟩ = some (.map (some k1.mb)) ∧ w'.cell? ⟨b, 4, none⟩ = some (.int .i64 (k1.now : Int)))
          (first | go_keep | exact ⟨d7, d4⟩ | exact ⟨e7, e4⟩)
          (fail)
        have hXd := hX.drew
        obtain ⟨RA1, rc1, hrv1, -, -, -⟩ := own_form hXd.r.rrow
        have e8 : w2.cell? ⟨b, 8, none⟩ = some (.slice RA1 k1.roots.length rc1) := by rw [← hrv1]; exact b2.cell rfl
        have hrow2 := own_map hXd.r.map hg2 hXd.r.rrow
        rw [hrv1] at hrow2
        obtain ⟨w2a, hw2a⟩ : ∃ w2a, w2.alloc (.cells #[.int .i64 id] 3) = w2a := ⟨_, rfl⟩
        have hb2a : Below w2.heap.size w2 (w2.alloc (.cells #[.int .i64 id] 3)) := (Below.refl _ _).alloc (Nat.le_refl _) _
        have hrd1 : Rd (w2.alloc (.cells #[.int .i64 id] 3)) (some ⟨w2.heap.size, 0, none⟩) 1 1 [.int .i64 id] := Rd.new w2 #[.int .i64 id] 3 (0, 0) rfl
        rw [hw2a] at hb2a hrd1
        have hrow2a := own_keep hrow2 hb2a
        have b2a := b2.keep hb2a
        obtain ⟨i0, hi0, hz0, hz1, hz2⟩ := int_info
        have Hz := Lib.hid hz2
        have hBa : B ≤ w2a.heap.size := Nat.le_trans (Nat.le_trans (Nat.le_trans hBw hN1.size) (show w1.heap.size ≤ w2.heap.size from hg2.size)) hb2a.size
        have hk32 : k1.roots.length ≤ 32 := by rw [Hlen1.out]; omega
        generalize hkn : k1.roots.length = kn1 at *
        have Hkn := Lib.hid hkn
        clear hz2 hkn hrow2 hXd hst c4 c8 d7 d4 e7 e4 hmu
        go_wp2_with (first
          | (at_builtin
             go_must (refine wpList_app _ rfl (.tmp 42) (.tmp 44) _ rfl B 3 i0 _ 1 8 Try.underlying42 hi0 hz0 hz1 Hz.out rfl Nat.one_pos _ kn1 _ rfl hrow2a (some ⟨w2.heap.size, 0, none⟩) 1 1 [.int .i64 id] rfl (fun h => by cases h) hrd1 (fun u hu => by rw [List.mem_singleton.1 hu]; rfl) (by unfold maxLen; omega) (by omega) hBa ?_)
             intro v3 w3 hown3 hg3 hat3
             obtain ⟨A3, c3, rfl, -, -, -⟩ := own_form hown3
             have b3 := blk_row b2a hrow2a hg3 (by decide)
             have z8 := b3.cell (j := 8) rfl
             have y8 := b3.free 8))
        go_ret
        have hg3' : w2a.grownBy w3 k1.rv.ownBlock := by rw [hrv1]; exact hg3
        have hat3' : (Value.slice A3 (kn1 + 1) c3).ownBlock = k1.rv.ownBlock ∨ (Value.slice A3 (kn1 + 1) c3).ownBlock = some w2a.heap.size := by rw [hrv1]; exact hat3
        have hfin := hX.drew.snap (id := id) (by rw [Hkn.out]; exact hm2) hg2 hw2a (by rw [Hkn.out]; exact hown3) hg3' hat3' rfl hok' ht1
        exact ⟨rfl, Nx.then hU hBw hN1 (Nx.undrew (Nat.le_trans hBw hN1.size) hfin)⟩
end
end Sha
end Go.Proofs.Ytfcfffilfmbpeaa
