/- Layer 12: Delete. -/
import Derived.Test.YtfcfffilfmbpeaaShaK
set_option linter.all false
namespace Go.Proofs.Ytfcfffilfmbpeaa
open Go.RowKit Go.Maps
namespace Sha
open Blo (vol fun_ GotN AnsN Dat FitB)

theorem step_del {P : Program} (w : World) {ops : Array Oper} {o : Oper} {a : Act} {K : Act → World → Prop} {Q : Exit → Act → World → Prop} {E : Prop} (hg : o.guard = none) (m x : Operand) (t k : TypeId) (hop : o.op = Op.call { callee := Callee.builtin Builtin.delete, args := #[m, x], argTypes := #[t, k] })
    (b : Nat) (key : Value) (hm : a.eval m = .map (some b)) (hx : a.eval x = key) (w' : World) (hrun : (Builtin.delete_ #[t, k] o.type #[.map (some b), key]).run P w = .ok (.tuple #[]) w') (hK : K (a.put o.dst (.tuple #[])) w') :
    if Region.wanted o (yielded ops a.tmps) = true then Oper.wp P o a w K Q else E := by
  have hw : Region.wanted o (yielded ops a.tmps) = true := by simp [Region.wanted, hg]
  rw [if_pos hw]
  unfold Oper.wp
  simp [execOp, hop, resolve, invoke, builtin, hm, hx, hrun, Result.andThen]
  exact hK
theorem deS_no {s : SS} {id : Int} (h : hasS s id = false) : deS s id = s := by
  unfold deS
  have e : s.snaps.filter (fun q => !decide (q.1 = id)) = s.snaps := List.filter_eq_self.2 fun q hq => by
    cases hd : decide (q.1 = id) with
    | false => rfl
    | true =>
      have : hasS s id = true := has_iff.2 ⟨q, hq, of_decide_eq_true hd⟩
      rw [h] at this; cases this
  rw [e]
/-- A snapshot less. -/
theorem ShX.del {w w2 w3 w4 : World} {B b : Nat} {U : Nat → Prop} {s : SS} {k : CS} {id : Int} {l1 l2 : List Int} {v3 : Value} (h : ShX w B U b s k) (hids : k.roots.map Prod.fst = l1 ++ id :: l2) (h1 : ∀ x ∈ l1, x ≠ id) (h2 : ∀ x ∈ l2, x ≠ id)
    (hm : Mp w2 k.mb (l1 ++ l2).length (rootOf (k.roots.filter fun q => !decide (q.1 = id)))) (hg2 : w.grownBy w2 (some k.mb))
    (hown3 : w3.ownsRow B 3 1 v3 (l1 ++ l2).length (ivs (l1 ++ l2))) (hg3 : w2.grownBy w3 k.rv.ownBlock) (hat3 : v3.ownBlock = k.rv.ownBlock) (hw4 : w3.setCell ⟨b, 8, none⟩ v3 = w4) (ht : k.ls.length ≤ 257 + s.opn.length) : Nx w w4 B U b (deS s id) := by
  have hs2 : w.heap.size ≤ w2.heap.size := hg2.size
  have hs3 : w2.heap.size ≤ w3.heap.size := hg3.size
  have hr := h.r
  have hbl := h.blk.lt
  have r2 := own_map hr.map hg2 hr.rrow
  have b2 : Blk w2 b 65 (sha b s k) := h.blk.grown hg2 fun e => by injection e with e; exact hr.map.apart h.blk e
  have b3 := blk_row b2 r2 hg3 (by decide)
  have b4 := b3.setCell 8 v3
  have hg4 := grown_setCell w3 ⟨b, 8, none⟩ v3
  rw [hw4] at b4 hg4
  have hs4 : w3.heap.size ≤ w4.heap.size := hg4.size
  have g3 := gm_row (gm_map hr.gm hr.map hg2) r2 hg3 (by decide) (by decide) (by decide) (by decide)
  have g4 := g3.grown hg4 b3 (g3.apart b3 (by decide)) (by decide) (by decide) (by decide)
  have o3 := own_row2 (own_map hr.map hg2 hr.orow) r2 hg3 (by decide)
  have o4 := own_set_ne b3 o3 (by decide) 8 v3
  have r4 := own_set_ne b3 hown3 (by decide) 8 v3
  rw [hw4] at o4 r4
  have m3 := map_row hm r2 hg3
  have m4 := m3.kept hg4 fun e => by injection e with e; exact m3.apart b3 e.symm
  have hBw : B ≤ w.heap.size := Nat.le_trans hr.base (Nat.le_of_lt hbl)
  have hF : Fr B U w w4 := ((Fr.grown hg2 hBw fun j hj => by injection hj with hj; subst hj; exact ⟨(hr.ulow _ hr.mout).1, hr.mout⟩).then (U' := U) (Fr.grown hg3 (by omega) fun j hj => ⟨(hr.ulow j (hr.rout j hj)).1, hr.rout j hj⟩) fun j hj => .inl hj).then (U' := U) (Fr.grown hg4 (by omega) fun j hj => by injection hj with hj; subst hj; exact ⟨hr.base, hr.ub⟩) fun j hj => .inl hj
  have hfi : (k.roots.filter fun q => !decide (q.1 = id)).map Prod.fst = l1 ++ l2 := by
    have e : (k.roots.filter fun q => !decide (q.1 = id)).map Prod.fst = (k.roots.map Prod.fst).filter fun x => !decide (x = id) := by
      rw [List.filter_map]; rfl
    rw [e, hids, List.filter_append, List.filter_cons_of_neg (by simp)]
    rw [List.filter_eq_self.2 fun x hx => by simpa using h1 x hx, List.filter_eq_self.2 fun x hx => by simpa using h2 x hx]
  have hfl : (k.roots.filter fun q => !decide (q.1 = id)).length = (l1 ++ l2).length := by rw [← hfi, List.length_map]
  refine ⟨⟨{ k with rv := v3, roots := k.roots.filter fun q => !decide (q.1 = id) }, ⟨b4, ?_⟩, ht⟩, hF⟩
  exact {
    gm := g4.sub fun j _ hj => .inl hj
    base := hr.base
    ub := .inl hr.ub
    ulow := gr_low hr.ulow hBw (by omega)
    spare := hr.spare
    zero := hr.zero
    now := hr.now
    sure := hr.sure
    orow := o4
    oout := fun g hg => .inl (hr.oout g hg)
    ops := hr.ops
    rrow := by
      show w4.ownsRow B _ 1 v3 (k.roots.filter fun q => !decide (q.1 = id)).length (ivs ((k.roots.filter fun q => !decide (q.1 = id)).map Prod.fst))
      rw [hfi, hfl]
      exact r4
    rout := fun g hg => .inl (hr.rout g (by rw [← hat3]; exact hg))
    map := by
      show Mp w4 k.mb (k.roots.filter fun q => !decide (q.1 = id)).length _
      rw [hfl]
      exact m4
    mout := .inl hr.mout
    snaps := hr.snaps.filter fun a c q => by rw [q.1]
    ok := hr.ok.deS id }
theorem root_filter (l : List (Int × Nat)) (id j : Int) : rootOf (l.filter fun q => !decide (q.1 = id)) j = if j = id then none else rootOf l j := by
  unfold rootOf
  induction l with
  | nil => simp
  | cons q l ih =>
    by_cases e : q.1 = id
    · rw [List.filter_cons_of_neg (by simp [e]), ih]
      by_cases ej : j = id
      · rw [if_pos ej, if_pos ej]
      · rw [if_neg ej, if_neg ej, List.find?_cons_of_neg (by simp only [decide_eq_true_eq]; exact fun q' => ej (q'.symm.trans e))]
    · rw [List.filter_cons_of_pos (by simp [e])]
      by_cases eq : q.1 = j
      · rw [List.find?_cons_of_pos (by simp [eq]), List.find?_cons_of_pos (by simp [eq]), if_neg (fun h => e (eq.trans h))]
      · rw [List.find?_cons_of_neg (by simp [eq]), List.find?_cons_of_neg (by simp [eq]), ih]
section
variable (w : World) (B b : Nat) (U : Nat → Prop) (s : SS)
set_option maxRecDepth 100000 in
set_option maxHeartbeats 2000000 in
theorem delete_ (id : Int) (hi : I64 id) (h : Sh w B U b s) : Calls Try.prog 30 #[.pointer (some ⟨b, 0, none⟩), .int .i64 id] w fun e w' => e = .returned (.int .i64 (deE s id)) ∧ Nx w w' B U b (deS s id) := by
  have hBw := h.base
  have hU := h.ulow
  have hb0 : Below w.heap.size w (w.alloc (.cells #[.int .i64 id] 3)) := (Below.refl _ _).alloc (Nat.le_refl _) _
  have hV := Blk.new w 3 #[.int .i64 id] rfl
  obtain ⟨w0, hw0⟩ : ∃ w0, w.alloc (.cells #[.int .i64 id] 3) = w0 := ⟨_, rfl⟩
  rw [hw0] at hb0 hV
  have h0 := h.below hb0
  have hR : Nx w w0 B U b s := Nx.below hb0 hBw (Nx.refl h0)
  obtain ⟨k, hX, ht⟩ := h0
  have hmade := hX.made
  have hhas := has_ w0 B b U s hX id hi
  have v0 := hV.cell (j := 0) (u := .int .i64 id) rfl
  clear h
  cases hh : hasS s id with
  | false =>
    rw [hh] at hhas
    rw [show deE s id = 9 by unfold deE; rw [hh]; rfl, deS_no hh]
    go_enter Try.func30, Try.ntmps30
    go_wp2_with fail
    refine hmade.mono ?_
    rintro e w' ⟨rfl, rfl⟩
    go_wp2_with fail
    refine hhas.mono ?_
    rintro e w' ⟨rfl, rfl⟩
    go_wp2
    go_ret
    exact ⟨rfl, hR⟩
  | true =>
    rw [hh] at hhas
    rw [show deE s id = 0 by unfold deE; rw [hh]; rfl]
    have hidm : id ∈ k.roots.map Prod.fst := by
      rw [hX.r.ids]
      obtain ⟨q, hq, e⟩ := has_iff.1 hh
      exact List.mem_map.2 ⟨q, hq, e⟩
    obtain ⟨l1, l2, hids⟩ := List.append_of_mem hidm
    have hnd : (l1 ++ id :: l2).Nodup := by rw [← hids, hX.r.ids]; exact hX.r.ok.once
    have hn1 : ∀ x ∈ l1, x ≠ id := fun x hx e => (List.nodup_append.1 hnd).2.2 x hx id (by simp) e
    have hn2 : ∀ x ∈ l2, x ≠ id := fun x hx e => by
      have := (List.nodup_cons.1 (List.nodup_append.1 hnd).2.1).1
      rw [e] at hx
      exact this hx
    have hlen : k.roots.length = (l1 ++ l2).length + 1 := by
      have := congrArg List.length hids
      simp at this ⊢
      omega
    have hk32 : k.roots.length ≤ 32 := by rw [hX.r.snaps.length]; exact hX.r.ok.few2
    have hmp := hX.drew.r.map
    have hsome : (rootOf k.roots id).isSome = true := by rw [has_root hX.r.snaps id]; exact hh
    rw [hlen] at hmp
    obtain ⟨w2, hdel, hm2, hg2⟩ := hmp.drop (c' := rootOf (k.roots.filter fun q => !decide (q.1 = id))) hi hsome (root_filter k.roots id) 0
    obtain ⟨RA, rc, hrv, -, -, -⟩ := own_form hX.r.rrow
    have c7 := hX.cell (j := 7) (u := .map (some k.mb)) rfl
    have b2 : Blk w2 b 65 (sha b s k) := hX.drew.blk.grown hg2 fun e => by injection e with e; exact hX.drew.r.map.apart hX.drew.blk e
    have hV2 : Blk w2 w.heap.size 3 #[.int .i64 id] := (show Blk w0.drew w.heap.size 3 #[.int .i64 id] from hV).grown hg2 fun e => by injection e with e; exact hX.drew.r.map.apart (show Blk w0.drew w.heap.size 3 #[.int .i64 id] from hV) e
    have hrow2 := own_map hX.drew.r.map hg2 hX.drew.r.rrow
    rw [hids, hrv] at hrow2
    have e8 : w2.cell? ⟨b, 8, none⟩ = some (.slice RA k.roots.length rc) := by rw [← hrv]; exact b2.cell rfl
    have hne : (Value.slice RA k.roots.length rc).ownBlock ≠ some w.heap.size := fun e => by
      rw [← hrv] at e
      have := (hU _ (hX.r.rout _ e)).2
      omega
    have hdf := delfunc_ w2 B RA k.roots.length rc l1 l2 id w.heap.size hrow2 hn1 hn2 hV2 hne (by omega)
    have v2 := hV2.cell (j := 0) (u := .int .i64 id) rfl
    have hfin := fun (w3 w4 : World) (h3 : w3.ownsRow B 3 1 (.slice RA (l1 ++ l2).length rc) (l1 ++ l2).length (ivs (l1 ++ l2))) (h4 : w2.grownBy w3 (Value.slice RA k.roots.length rc).ownBlock) (h5 : w3.setCell ⟨b, 8, none⟩ (.slice RA (l1 ++ l2).length rc) = w4) =>
      hX.drew.del hids hn1 hn2 hm2 hg2 h3 (by rw [hrv]; exact h4) (by rw [hrv]; cases RA <;> rfl) h5 ht
    have hblk3 := fun (w3 : World) (h4 : w2.grownBy w3 (Value.slice RA k.roots.length rc).ownBlock) => blk_row b2 hrow2 h4 (by decide)
    obtain ⟨kn, hkn⟩ : ∃ kn, k.roots.length = kn := ⟨_, rfl⟩
    obtain ⟨kl, hkl⟩ : ∃ kl, (l1 ++ l2).length = kl := ⟨_, rfl⟩
    have e8' : w2.cell? ⟨b, 8, none⟩ = some (.slice RA kn rc) := by rw [← hkn]; exact e8
    rw [hkn] at hdf hfin hblk3
    rw [hkl] at hdf hfin
    have hk8 : ∀ w3, Blk w3 b 65 (sha b s k) → w3.cell? ⟨b, 8, none⟩ = some (.slice RA kn rc) := fun w3 q => by rw [← hkn, ← hrv]; exact q.cell rfl
    clear hkn hkl hlen hrv e8 hrow2 hne hm2 hmp hk32 hids
    go_enter Try.func30, Try.ntmps30
    go_wp2_with fail
    refine hmade.mono ?_
    rintro e w' ⟨rfl, rfl⟩
    go_wp2_with fail
    refine hhas.mono ?_
    rintro e w' ⟨rfl, rfl⟩
    go_wp2_with fail
    go_region_law (refine step_del _ rfl (.tmp 15) (.tmp 16) 63 3 rfl k.mb (.int .i64 id) rfl rfl w2 hdel ?_)
    all_goals (
      clear hdel c7 v0
      go_wp2_with fail
      refine hdf.mono ?_
      rintro e w3 ⟨rfl, hown3, hg3⟩
      have b3 := hblk3 w3 hg3
      have c8 := hk8 w3 b3
      have f8 := b3.free 8
      have hN := hfin w3 _ hown3 hg3 rfl
      clear hfin hblk3 hk8 hX b2 b3
      go_wp2
      go_ret
      exact ⟨rfl, Nx.below hb0 hBw (Nx.undrew (Nat.le_trans hBw hb0.size) hN)⟩)
end
end Sha
end Go.Proofs.Ytfcfffilfmbpeaa
