/- Layer 17: a coordinator, its agents and what is on its way, as they lie in memory. -/
import Derived.Test.YtpjbeodnalgkfaaBarAr
set_option linter.all false
namespace Go.Proofs.Ytpjbeodnalgkfaa
open Go.RowKit
namespace Bar
def toO (y : An) : Odr := ⟨y.a, y.k, y.id⟩
def axs (l : List An) : List Value := ods (l.map toO)
theorem axs_len (l : List An) : (axs l).length = l.length * 3 := by rw [axs, ods_len, List.length_map]
def gvs (gs : Nat → Nat) (n : Nat) : List Value := (List.range n).map fun i => Value.pointer (some ⟨gs i + 1, 0, none⟩)
theorem gvs_len (gs : Nat → Nat) (n : Nat) : (gvs gs n).length = n := by simp [gvs]
theorem gvs_succ (gs : Nat → Nat) (n : Nat) : gvs gs (n + 1) = gvs gs n ++ [Value.pointer (some ⟨gs n + 1, 0, none⟩)] := by simp [gvs, List.range_succ]
theorem gvs_one (gs : Nat → Nat) (n : Nat) : ∀ u ∈ gvs gs n, u.oneCell' = true := by
  intro u hu
  obtain ⟨z, _, rfl⟩ := List.mem_map.1 hu
  rfl
theorem own_blk2 {w : World} {B : Nat} {e : TypeId} {sz n : Nat} {v : Value} {xs : List Value} (h : w.ownsRow B e sz v n xs) {g : Nat} (hg : v.ownBlock = some g) : ∃ cs, Blk w g e cs := by
  rcases h.2 with ⟨rfl, _⟩ | ⟨b, cap, cur, rfl, _, hh, _⟩
  · cases hg
  · injection hg with hg
    simp only at hg
    subst hg
    exact ⟨_, hh⟩
theorem own_ne {w : World} {B C : Nat} {e f : TypeId} {sz n sz' m : Nat} {v u : Value} {xs ys : List Value} (h : w.ownsRow B e sz v n xs) (k : w.ownsRow C f sz' u m ys) (hef : e ≠ f) {g : Nat} (hg : v.ownBlock = some g) : u.ownBlock ≠ some g := fun q => by
  obtain ⟨c1, h1⟩ := own_blk2 h hg
  obtain ⟨c2, h2⟩ := own_blk2 k q
  exact blk_ty h1 h2 hef rfl
abbrev wa (cg : Nat) (av ov xv iv : Value) : Array Value := #[.pointer (some ⟨cg + 1, 0, none⟩), av, ov, xv, iv]
/-- Blocks that are known. -/
def Kn (wb cg : Nat) (gs : Nat → Nat) (n : Nat) (av ov xv iv : Value) (k : Nat) : Prop :=
  k = wb ∨ k = cg ∨ k = cg + 1 ∨ (∃ i, i < n ∧ (k = gs i ∨ k = gs i + 1)) ∨ av.ownBlock = some k ∨ ov.ownBlock = some k ∨ xv.ownBlock = some k ∨ iv.ownBlock = some k
/-- Blocks that are read alone. -/
def Nm (w : World) (wb cg : Nat) (gs : Nat → Nat) (n : Nat) (av ov xv iv : Value) (k : Nat) : Prop := ¬ Kn wb cg gs n av ov xv iv k ∧ k < w.heap.size
/-- What is below B, and what P tells of, stays. -/
structure Fr (B : Nat) (P : Nat → Prop) (w w' : World) : Prop where
  os : w'.os = w.os
  tape : w'.tape = w.tape
  output : w'.output = w.output
  size : w.heap.size ≤ w'.heap.size
  block : ∀ k, k < w.heap.size → (k < B ∨ P k) → w'.heap[k]? = w.heap[k]?
theorem Fr.ofBelow {B : Nat} {P : Nat → Prop} {w w' : World} (h : Below w.heap.size w w') : Fr B P w w' := ⟨h.os, h.tape, h.output, h.size, fun k hk _ => h.block k hk⟩
theorem Fr.trans {B : Nat} {P : Nat → Prop} {a b c : World} (h : Fr B P a b) (k : Fr B P b c) : Fr B P a c :=
  ⟨k.os.trans h.os, k.tape.trans h.tape, k.output.trans h.output, Nat.le_trans h.size k.size, fun j hj hp => (k.block j (Nat.lt_of_lt_of_le hj h.size) hp).trans (h.block j hj hp)⟩
theorem Fr.drew {B : Nat} {P : Nat → Prop} {a b : World} (h : Fr B P a b) : Fr B P a b.drew := ⟨h.os, h.tape, h.output, h.size, h.block⟩
theorem Fr.drewN {B : Nat} {P : Nat → Prop} {a b : World} (h : Fr B P a b) (n : Nat) : Fr B P a (b.drewN n) := ⟨h.os, h.tape, h.output, h.size, h.block⟩
theorem Fr.below {B : Nat} {P : Nat → Prop} {w w' : World} (h : Fr B P w w') (hB : B ≤ w.heap.size) : Below B w w' := ⟨h.os, h.tape, h.output, h.size, fun k hk => h.block k (by omega) (.inl hk)⟩
theorem Fr.own {B C : Nat} {P : Nat → Prop} {w w' : World} (h : Fr B P w w') {e : TypeId} {sz n : Nat} {v : Value} {xs : List Value} (hv : w.ownsRow C e sz v n xs) (hp : ∀ g, v.ownBlock = some g → P g) : w'.ownsRow C e sz v n xs := by
  refine ⟨hv.1, ?_⟩
  rcases hv.2 with h2 | ⟨g, cap, cur, rfl, hb, hh, r⟩
  · exact .inl h2
  · exact .inr ⟨g, cap, cur, rfl, hb, (h.block g (hv.lt g rfl).2 (.inr (hp g rfl))).trans hh, r⟩
structure WmX (w : World) (B : Nat) (P : Nat → Prop) (wb cg : Nat) (gs : Nat → Nat) (av ov xv iv : Value) (W : Wd) : Prop where
  blk : Blk w wb 72 (wa cg av ov xv iv)
  co : Cd w cg (Nm w wb cg gs W.g.length av ov xv iv) W.c
  ag : ∀ i a, W.g[i]? = some a → AgX w (gs i) a
  inj : ∀ i j, i < W.g.length → j < W.g.length → gs i = gs j → i = j
  ptrs : w.ownsRow B 23 1 av W.g.length (gvs gs W.g.length)
  os : w.ownsRow B 74 3 ov W.os.length (ods W.os)
  ax : w.ownsRow B 91 3 xv W.ax.length (axs W.ax)
  ids : w.ownsRow B 3 1 iv W.ids.length (ivs W.ids)
  low : B ≤ wb ∧ B ≤ cg ∧ ∀ i, i < W.g.length → B ≤ gs i
  prot : ∀ k, P k → ¬ Kn wb cg gs W.g.length av ov xv iv k ∧ k < w.heap.size
section
variable {w w' : World} {B wb cg : Nat} {P : Nat → Prop} {gs : Nat → Nat} {av ov xv iv : Value} {W : Wd} {S : Nat → Prop}
theorem WmX.at_ (h : WmX w B P wb cg gs av ov xv iv W) {i : Nat} (hi : i < W.g.length) : AgX w (gs i) (W.g.getD i ag0) := h.ag i _ (getD_some hi)
theorem WmX.cmap (h : WmX w B P wb cg gs av ov xv iv W) : ∃ k c, Mp w cg k c := by obtain ⟨⟨A, n, cp, hX⟩, _⟩ := h.co; exact ⟨_, _, hX.mp⟩
theorem WmX.cblk (h : WmX w B P wb cg gs av ov xv iv W) : ∃ cs, Blk w (cg + 1) 80 cs := by obtain ⟨⟨A, n, cp, hX⟩, _⟩ := h.co; exact ⟨_, hX.blk⟩
/-- The known ones but agents are apart from a block. -/
theorem WmX.wbC (h : WmX w B P wb cg gs av ov xv iv W) : wb ≠ cg ∧ wb ≠ cg + 1 := by
  obtain ⟨k, c, ⟨D, hm, _⟩⟩ := h.cmap
  obtain ⟨cs, hb⟩ := h.cblk
  exact ⟨blk_map h.blk hm, blk_ty h.blk hb (by decide)⟩
theorem WmX.wbA (h : WmX w B P wb cg gs av ov xv iv W) {i : Nat} (hi : i < W.g.length) : wb ≠ gs i ∧ wb ≠ gs i + 1 := by
  have ha := h.at_ hi
  obtain ⟨D, hm, _⟩ := ha.set.own
  exact ⟨blk_map h.blk hm, blk_ty h.blk ha.blk (by decide)⟩
theorem WmX.cA (h : WmX w B P wb cg gs av ov xv iv W) {i : Nat} (hi : i < W.g.length) : gs i ≠ cg ∧ gs i ≠ cg + 1 ∧ gs i + 1 ≠ cg ∧ gs i + 1 ≠ cg + 1 := by
  have ha := h.at_ hi
  obtain ⟨D, hm, _⟩ := ha.set.own
  obtain ⟨k, c, ⟨E, hM, _⟩⟩ := h.cmap
  obtain ⟨cs, hb⟩ := h.cblk
  have h1 := blk_map ha.blk hM
  have h2 := blk_map hb hm
  have h3 := blk_ty ha.blk hb (by decide)
  exact ⟨by omega, fun e => h2 e.symm, h1, h3⟩
theorem WmX.aA (h : WmX w B P wb cg gs av ov xv iv W) {i j : Nat} (hi : i < W.g.length) (hj : j < W.g.length) (hij : i ≠ j) : gs i ≠ gs j ∧ gs i ≠ gs j + 1 ∧ gs i + 1 ≠ gs j ∧ gs i + 1 ≠ gs j + 1 := by
  have ha := h.at_ hi
  have hb := h.at_ hj
  obtain ⟨D, hm, _⟩ := ha.set.own
  obtain ⟨E, hM, _⟩ := hb.set.own
  have h0 : gs i ≠ gs j := fun e => hij (h.inj i j hi hj e)
  have h1 := blk_map ha.blk hM
  have h2 := blk_map hb.blk hm
  exact ⟨h0, fun e => h2 e.symm, h1, by omega⟩
theorem WmX.ptrsK (h : WmX w B P wb cg gs av ov xv iv W) {g : Nat} (hg : av.ownBlock = some g) : g ≠ wb ∧ g ≠ cg ∧ g ≠ cg + 1 ∧ (∀ i, i < W.g.length → g ≠ gs i ∧ g ≠ gs i + 1) ∧ B ≤ g ∧ g < w.heap.size := by
  have hr := h.ptrs
  obtain ⟨k, c, ⟨E, hM, _⟩⟩ := h.cmap
  obtain ⟨cs, hb⟩ := h.cblk
  obtain ⟨ds, hd⟩ := own_blk2 hr hg
  have hl := hr.lt g hg
  refine ⟨blk_ty hd h.blk (by decide), blk_map hd hM, blk_ty hd hb (by decide), fun i hi => ?_, hl.1, hl.2⟩
  have ha := h.at_ hi
  obtain ⟨D, hm, _⟩ := ha.set.own
  exact ⟨blk_map hd hm, blk_ty hd ha.blk (by decide)⟩
theorem WmX.osK (h : WmX w B P wb cg gs av ov xv iv W) {g : Nat} (hg : ov.ownBlock = some g) : g ≠ wb ∧ g ≠ cg ∧ g ≠ cg + 1 ∧ (∀ i, i < W.g.length → g ≠ gs i ∧ g ≠ gs i + 1) ∧ B ≤ g ∧ g < w.heap.size := by
  have hr := h.os
  obtain ⟨k, c, ⟨E, hM, _⟩⟩ := h.cmap
  obtain ⟨cs, hb⟩ := h.cblk
  obtain ⟨ds, hd⟩ := own_blk2 hr hg
  have hl := hr.lt g hg
  refine ⟨blk_ty hd h.blk (by decide), blk_map hd hM, blk_ty hd hb (by decide), fun i hi => ?_, hl.1, hl.2⟩
  have ha := h.at_ hi
  obtain ⟨D, hm, _⟩ := ha.set.own
  exact ⟨blk_map hd hm, blk_ty hd ha.blk (by decide)⟩
theorem WmX.axK (h : WmX w B P wb cg gs av ov xv iv W) {g : Nat} (hg : xv.ownBlock = some g) : g ≠ wb ∧ g ≠ cg ∧ g ≠ cg + 1 ∧ (∀ i, i < W.g.length → g ≠ gs i ∧ g ≠ gs i + 1) ∧ B ≤ g ∧ g < w.heap.size := by
  have hr := h.ax
  obtain ⟨k, c, ⟨E, hM, _⟩⟩ := h.cmap
  obtain ⟨cs, hb⟩ := h.cblk
  obtain ⟨ds, hd⟩ := own_blk2 hr hg
  have hl := hr.lt g hg
  refine ⟨blk_ty hd h.blk (by decide), blk_map hd hM, blk_ty hd hb (by decide), fun i hi => ?_, hl.1, hl.2⟩
  have ha := h.at_ hi
  obtain ⟨D, hm, _⟩ := ha.set.own
  exact ⟨blk_map hd hm, blk_ty hd ha.blk (by decide)⟩
theorem WmX.idsK (h : WmX w B P wb cg gs av ov xv iv W) {g : Nat} (hg : iv.ownBlock = some g) : g ≠ wb ∧ g ≠ cg ∧ g ≠ cg + 1 ∧ (∀ i, i < W.g.length → g ≠ gs i ∧ g ≠ gs i + 1) ∧ B ≤ g ∧ g < w.heap.size := by
  have hr := h.ids
  obtain ⟨k, c, ⟨E, hM, _⟩⟩ := h.cmap
  obtain ⟨cs, hb⟩ := h.cblk
  obtain ⟨ds, hd⟩ := own_blk2 hr hg
  have hl := hr.lt g hg
  refine ⟨blk_ty hd h.blk (by decide), blk_map hd hM, blk_ty hd hb (by decide), fun i hi => ?_, hl.1, hl.2⟩
  have ha := h.at_ hi
  obtain ⟨D, hm, _⟩ := ha.set.own
  exact ⟨blk_map hd hm, blk_ty hd ha.blk (by decide)⟩
theorem WmX.lt (h : WmX w B P wb cg gs av ov xv iv W) : wb < w.heap.size ∧ cg + 1 < w.heap.size ∧ ∀ i, i < W.g.length → gs i + 1 < w.heap.size := ⟨h.blk.lt, h.co.lt, fun i hi => (h.at_ hi).lt⟩
theorem WmX.knLt (h : WmX w B P wb cg gs av ov xv iv W) {k : Nat} (hk : Kn wb cg gs W.g.length av ov xv iv k) : B ≤ k ∧ k < w.heap.size := by
  obtain ⟨l1, l2, l3⟩ := h.lt
  obtain ⟨m1, m2, m3⟩ := h.low
  rcases hk with rfl | rfl | rfl | ⟨i, hi, rfl | rfl⟩ | q | q | q | q
  · exact ⟨m1, l1⟩
  · exact ⟨m2, by omega⟩
  · exact ⟨by omega, l2⟩
  · exact ⟨m3 i hi, by have := l3 i hi; omega⟩
  · exact ⟨by have := m3 i hi; omega, l3 i hi⟩
  · exact (h.ptrsK q).2.2.2.2
  · exact (h.osK q).2.2.2.2
  · exact (h.axK q).2.2.2.2
  · exact (h.idsK q).2.2.2.2
/-- What is written is known: what the coordinator reads alone stays. -/
theorem WmX.coFu (h : WmX w B P wb cg gs av ov xv iv W) (hf : Fu S w w') (hs : ∀ k, S k → Kn wb cg gs W.g.length av ov xv iv k) (h0 : ¬ S cg) (h1 : ¬ S (cg + 1)) {av' ov' xv' iv' : Value}
    (hn : ∀ k, ¬ Kn wb cg gs W.g.length av ov xv iv k → k < w.heap.size → ¬ Kn wb cg gs W.g.length av' ov' xv' iv' k) : Cd w' cg (Nm w' wb cg gs W.g.length av' ov' xv' iv') W.c :=
  (h.co.fu hf (fun k hk q => hk.1 (hs k q)) h0 h1).sub (fun k hk hl => ⟨hn k hk.1 hk.2, hl⟩) ⟨fun q => q.1 (.inr (.inl rfl)), fun q => q.1 (.inr (.inr (.inl rfl)))⟩
theorem WmX.below (h : WmX w B P wb cg gs av ov xv iv W) (hf : Fu S w w') (hs : ∀ k, S k → Kn wb cg gs W.g.length av ov xv iv k) : Fr B P w w' :=
  ⟨hf.os, hf.tape, hf.output, hf.size, fun k hk hp => hf.block k hk (fun q => hp.elim (fun hp => by have := (h.knLt (hs k q)).1; omega) (fun hp => (h.prot k hp).1 (hs k q)))⟩
theorem WmX.keep (h : WmX w B P wb cg gs av ov xv iv W) (hb : Below w.heap.size w w') : WmX w' B P wb cg gs av ov xv iv W :=
  ⟨h.blk.keep hb, h.coFu (S := fun _ => False) (Fu.ofBelow hb) (fun _ q => q.elim) (fun q => q) (fun q => q) (fun k hk _ => hk), fun i a e => (h.ag i a e).keep hb, h.inj, own_keep h.ptrs hb, own_keep h.os hb, own_keep h.ax hb, own_keep h.ids hb, h.low, fun k hk => ⟨(h.prot k hk).1, Nat.lt_of_lt_of_le (h.prot k hk).2 hb.size⟩⟩
theorem WmX.drewN (h : WmX w B P wb cg gs av ov xv iv W) (k : Nat) : WmX (w.drewN k) B P wb cg gs av ov xv iv W := h.keep (below_drewN (Below.refl _ _) k)
/-- The coordinator goes on. -/
theorem WmX.coTo (h : WmX w B P wb cg gs av ov xv iv W) {c' : Co} (hA : CdA w w' cg (Nm w wb cg gs W.g.length av ov xv iv) c') : WmX w' B P wb cg gs av ov xv iv { W with c := c' } ∧ Fr B P w w' := by
  obtain ⟨hc, hf⟩ := hA
  have hs : ∀ k, k = cg ∨ k = cg + 1 → Kn wb cg gs W.g.length av ov xv iv k := fun k q => q.elim (fun q => .inr (.inl q)) (fun q => .inr (.inr (.inl q)))
  have hsz := hf.size
  refine ⟨⟨blk_fu h.blk hf (fun q => q.elim h.wbC.1 h.wbC.2), hc.sub (fun k hk hl => ⟨fun q => ?_, hl⟩) ⟨fun q => q.1 (.inr (.inl rfl)), fun q => q.1 (.inr (.inr (.inl rfl)))⟩, fun i a e => ?_, h.inj, own_fu h.ptrs hf (fun g hg q => q.elim (h.ptrsK hg).2.1 (h.ptrsK hg).2.2.1), own_fu h.os hf (fun g hg q => q.elim (h.osK hg).2.1 (h.osK hg).2.2.1), own_fu h.ax hf (fun g hg q => q.elim (h.axK hg).2.1 (h.axK hg).2.2.1), own_fu h.ids hf (fun g hg q => q.elim (h.idsK hg).2.1 (h.idsK hg).2.2.1), h.low, fun k hk => ⟨(h.prot k hk).1, Nat.lt_of_lt_of_le (h.prot k hk).2 hsz⟩⟩, h.below hf hs⟩
  · rcases hk with hk | hk
    · exact hk.1 q
    · have := (h.knLt q).2; omega
  · have hi := (List.getElem?_eq_some_iff.1 e).1
    obtain ⟨q1, q2, q3, q4⟩ := h.cA hi
    exact (h.ag i a e).fu hf (fun q => q.elim q1 q2) (fun q => q.elim q3 q4)
/-- An agent goes on. -/
theorem WmX.agTo (h : WmX w B P wb cg gs av ov xv iv W) {i : Nat} (hi : i < W.g.length) {a' : Ag} (ha : AgX w' (gs i) a') (hf : Fu (fun k => k = gs i ∨ k = gs i + 1) w w') : WmX w' B P wb cg gs av ov xv iv (wAg W i a') ∧ Fr B P w w' := by
  have hs : ∀ k, k = gs i ∨ k = gs i + 1 → Kn wb cg gs W.g.length av ov xv iv k := fun k q => .inr (.inr (.inr (.inl ⟨i, hi, q⟩)))
  have hl : (W.g.set i a').length = W.g.length := List.length_set
  obtain ⟨q1, q2, q3, q4⟩ := h.cA hi
  refine ⟨⟨blk_fu h.blk hf (fun q => q.elim (h.wbA hi).1 (h.wbA hi).2), ?_, fun j b e => ?_, fun j k hj hk => h.inj j k (by simpa [wAg] using hj) (by simpa [wAg] using hk), ?_, own_fu h.os hf (fun g hg q => ?_), own_fu h.ax hf (fun g hg q => ?_), own_fu h.ids hf (fun g hg q => ?_), ⟨h.low.1, h.low.2.1, fun j hj => h.low.2.2 j (by simpa [wAg] using hj)⟩, fun k hk => ⟨by show ¬ Kn wb cg gs (W.g.set i a').length av ov xv iv k; rw [hl]; exact (h.prot k hk).1, Nat.lt_of_lt_of_le (h.prot k hk).2 hf.size⟩⟩, h.below hf hs⟩
  · show Cd w' cg (Nm w' wb cg gs (W.g.set i a').length av ov xv iv) W.c
    rw [hl]
    exact h.coFu hf hs (fun q => q.elim (fun e => q1 e.symm) (fun e => q3 e.symm)) (fun q => q.elim (fun e => q2 e.symm) (fun e => q4 e.symm)) (fun k hk _ => hk)
  · by_cases hij : i = j
    · subst hij
      have e : (W.g.set i a')[i]? = some b := e
      rw [List.getElem?_set_self hi] at e
      injection e with e
      exact e ▸ ha
    · have e : (W.g.set i a')[j]? = some b := e
      rw [List.getElem?_set_ne hij] at e
      have hj := (List.getElem?_eq_some_iff.1 e).1
      obtain ⟨p1, p2, p3, p4⟩ := h.aA hj hi (fun q => hij q.symm)
      exact (h.ag j b e).fu hf (fun q => q.elim p1 p2) (fun q => q.elim p3 p4)
  · show w'.ownsRow B _ 1 av (W.g.set i a').length (gvs gs (W.g.set i a').length)
    rw [hl]
    exact own_fu h.ptrs hf (fun g hg q => q.elim ((h.ptrsK hg).2.2.2.1 i hi).1 ((h.ptrsK hg).2.2.2.1 i hi).2)
  · exact q.elim ((h.osK hg).2.2.2.1 i hi).1 ((h.osK hg).2.2.2.1 i hi).2
  · exact q.elim ((h.axK hg).2.2.2.1 i hi).1 ((h.axK hg).2.2.2.1 i hi).2
  · exact q.elim ((h.idsK hg).2.2.2.1 i hi).1 ((h.idsK hg).2.2.2.1 i hi).2
theorem WmX.osTo (h : WmX w B P wb cg gs av ov xv iv W) {w2 : World} {v' : Value} {l : List Odr} (hg : Fu (fun k => ov.ownBlock = some k) w w2) (hv : w2.ownsRow B 74 3 v' l.length (ods l)) (hat : ∀ g, v'.ownBlock = some g → ov.ownBlock = some g ∨ w.heap.size ≤ g) :
    WmX (w2.setCell ⟨wb, 2, none⟩ v') B P wb cg gs av v' xv iv { W with os := l } ∧ Fr B P w (w2.setCell ⟨wb, 2, none⟩ v') := by
  obtain ⟨w3, hw3⟩ : ∃ w3, w2.setCell ⟨wb, 2, none⟩ v' = w3 := ⟨_, rfl⟩
  have hset := grown_setCell w2 ⟨wb, 2, none⟩ v'
  rw [hw3] at hset
  have hf : Fu (fun k => k = wb ∨ ov.ownBlock = some k) w w3 := (hg.mono (fun k q => .inr q)).step hset (fun k q => by injection q with q; exact .inl (.inl q.symm))
  have hs : ∀ k, (k = wb ∨ ov.ownBlock = some k) → Kn wb cg gs W.g.length av ov xv iv k := fun k q => q.elim .inl (fun q => .inr (.inr (.inr (.inr (.inr (.inl q))))))
  have hb2 : Blk w2 wb 72 (wa cg av ov xv iv) := blk_fu h.blk hg (fun q => (h.osK q).1 rfl)
  have hvW : ∀ g, v'.ownBlock = some g → g ≠ wb := fun g q e => by
    rcases hat g q with q2 | q2
    · exact (h.osK q2).1 e
    · have := h.lt.1; omega
  have hkn : ∀ k, ¬ Kn wb cg gs W.g.length av ov xv iv k → k < w.heap.size → ¬ Kn wb cg gs W.g.length av v' xv iv k := fun k hk hl q => by
    rcases q with q | q | q | q | q | q | q | q
    · exact hk (.inl q)
    · exact hk (.inr (.inl q))
    · exact hk (.inr (.inr (.inl q)))
    · exact hk (.inr (.inr (.inr (.inl q))))
    · exact hk (.inr (.inr (.inr (.inr (.inl q)))))
    · exact (hat k q).elim (fun q => hk (.inr (.inr (.inr (.inr (.inr (.inl q))))))) (fun q => by omega)
    · exact hk (.inr (.inr (.inr (.inr (.inr (.inr (.inl q)))))))
    · exact hk (.inr (.inr (.inr (.inr (.inr (.inr (.inr q)))))))
  rw [hw3]
  refine ⟨⟨?_, h.coFu hf hs (fun q => q.elim (fun e => h.wbC.1 e.symm) (fun e => (h.osK e).2.1 rfl)) (fun q => q.elim (fun e => h.wbC.2 e.symm) (fun e => (h.osK e).2.2.1 rfl)) (fun k hk hl => hkn k hk hl), fun i a e => ?_, h.inj, own_fu h.ptrs hf (fun g hg q => q.elim (h.ptrsK hg).1 (own_ne h.ptrs h.os (by decide) hg)), ?_, own_fu h.ax hf (fun g hg q => q.elim (h.axK hg).1 (own_ne h.ax h.os (by decide) hg)), own_fu h.ids hf (fun g hg q => q.elim (h.idsK hg).1 (own_ne h.ids h.os (by decide) hg)), h.low, fun k hk => ⟨hkn k (h.prot k hk).1 (h.prot k hk).2, Nat.lt_of_lt_of_le (h.prot k hk).2 hf.size⟩⟩, h.below hf hs⟩
  · have := hb2.setCell 2 v'
    rw [hw3] at this
    simpa [wa] using this
  · have hi := (List.getElem?_eq_some_iff.1 e).1
    exact (h.ag i a e).fu hf (fun q => q.elim (fun e => (h.wbA hi).1 e.symm) (fun e => ((h.osK e).2.2.2.1 i hi).1 rfl)) (fun q => q.elim (fun e => (h.wbA hi).2 e.symm) (fun e => ((h.osK e).2.2.2.1 i hi).2 rfl))
  · exact own_grown hv hset (fun k hk q => by injection q with q; exact hvW k hk q)
theorem WmX.axTo (h : WmX w B P wb cg gs av ov xv iv W) {w2 : World} {v' : Value} {l : List An} (hg : Fu (fun k => xv.ownBlock = some k) w w2) (hv : w2.ownsRow B 91 3 v' l.length (axs l)) (hat : ∀ g, v'.ownBlock = some g → xv.ownBlock = some g ∨ w.heap.size ≤ g) :
    WmX (w2.setCell ⟨wb, 3, none⟩ v') B P wb cg gs av ov v' iv { W with ax := l } ∧ Fr B P w (w2.setCell ⟨wb, 3, none⟩ v') := by
  obtain ⟨w3, hw3⟩ : ∃ w3, w2.setCell ⟨wb, 3, none⟩ v' = w3 := ⟨_, rfl⟩
  have hset := grown_setCell w2 ⟨wb, 3, none⟩ v'
  rw [hw3] at hset
  have hf : Fu (fun k => k = wb ∨ xv.ownBlock = some k) w w3 := (hg.mono (fun k q => .inr q)).step hset (fun k q => by injection q with q; exact .inl (.inl q.symm))
  have hs : ∀ k, (k = wb ∨ xv.ownBlock = some k) → Kn wb cg gs W.g.length av ov xv iv k := fun k q => q.elim .inl (fun q => .inr (.inr (.inr (.inr (.inr (.inr (.inl q)))))))
  have hb2 : Blk w2 wb 72 (wa cg av ov xv iv) := blk_fu h.blk hg (fun q => (h.axK q).1 rfl)
  have hvW : ∀ g, v'.ownBlock = some g → g ≠ wb := fun g q e => by
    rcases hat g q with q2 | q2
    · exact (h.axK q2).1 e
    · have := h.lt.1; omega
  have hkn : ∀ k, ¬ Kn wb cg gs W.g.length av ov xv iv k → k < w.heap.size → ¬ Kn wb cg gs W.g.length av ov v' iv k := fun k hk hl q => by
    rcases q with q | q | q | q | q | q | q | q
    · exact hk (.inl q)
    · exact hk (.inr (.inl q))
    · exact hk (.inr (.inr (.inl q)))
    · exact hk (.inr (.inr (.inr (.inl q))))
    · exact hk (.inr (.inr (.inr (.inr (.inl q)))))
    · exact hk (.inr (.inr (.inr (.inr (.inr (.inl q))))))
    · exact (hat k q).elim (fun q => hk (.inr (.inr (.inr (.inr (.inr (.inr (.inl q)))))))) (fun q => by omega)
    · exact hk (.inr (.inr (.inr (.inr (.inr (.inr (.inr q)))))))
  rw [hw3]
  refine ⟨⟨?_, h.coFu hf hs (fun q => q.elim (fun e => h.wbC.1 e.symm) (fun e => (h.axK e).2.1 rfl)) (fun q => q.elim (fun e => h.wbC.2 e.symm) (fun e => (h.axK e).2.2.1 rfl)) (fun k hk hl => hkn k hk hl), fun i a e => ?_, h.inj, own_fu h.ptrs hf (fun g hg q => q.elim (h.ptrsK hg).1 (own_ne h.ptrs h.ax (by decide) hg)), own_fu h.os hf (fun g hg q => q.elim (h.osK hg).1 (own_ne h.os h.ax (by decide) hg)), ?_, own_fu h.ids hf (fun g hg q => q.elim (h.idsK hg).1 (own_ne h.ids h.ax (by decide) hg)), h.low, fun k hk => ⟨hkn k (h.prot k hk).1 (h.prot k hk).2, Nat.lt_of_lt_of_le (h.prot k hk).2 hf.size⟩⟩, h.below hf hs⟩
  · have := hb2.setCell 3 v'
    rw [hw3] at this
    simpa [wa] using this
  · have hi := (List.getElem?_eq_some_iff.1 e).1
    exact (h.ag i a e).fu hf (fun q => q.elim (fun e => (h.wbA hi).1 e.symm) (fun e => ((h.axK e).2.2.2.1 i hi).1 rfl)) (fun q => q.elim (fun e => (h.wbA hi).2 e.symm) (fun e => ((h.axK e).2.2.2.1 i hi).2 rfl))
  · exact own_grown hv hset (fun k hk q => by injection q with q; exact hvW k hk q)
theorem WmX.idsTo (h : WmX w B P wb cg gs av ov xv iv W) {w2 : World} {v' : Value} {l : List Int} (hg : Fu (fun k => iv.ownBlock = some k) w w2) (hv : w2.ownsRow B 3 1 v' l.length (ivs l)) (hat : ∀ g, v'.ownBlock = some g → iv.ownBlock = some g ∨ w.heap.size ≤ g) :
    WmX (w2.setCell ⟨wb, 4, none⟩ v') B P wb cg gs av ov xv v' { W with ids := l } ∧ Fr B P w (w2.setCell ⟨wb, 4, none⟩ v') := by
  obtain ⟨w3, hw3⟩ : ∃ w3, w2.setCell ⟨wb, 4, none⟩ v' = w3 := ⟨_, rfl⟩
  have hset := grown_setCell w2 ⟨wb, 4, none⟩ v'
  rw [hw3] at hset
  have hf : Fu (fun k => k = wb ∨ iv.ownBlock = some k) w w3 := (hg.mono (fun k q => .inr q)).step hset (fun k q => by injection q with q; exact .inl (.inl q.symm))
  have hs : ∀ k, (k = wb ∨ iv.ownBlock = some k) → Kn wb cg gs W.g.length av ov xv iv k := fun k q => q.elim .inl (fun q => .inr (.inr (.inr (.inr (.inr (.inr (.inr q)))))))
  have hb2 : Blk w2 wb 72 (wa cg av ov xv iv) := blk_fu h.blk hg (fun q => (h.idsK q).1 rfl)
  have hvW : ∀ g, v'.ownBlock = some g → g ≠ wb := fun g q e => by
    rcases hat g q with q2 | q2
    · exact (h.idsK q2).1 e
    · have := h.lt.1; omega
  have hkn : ∀ k, ¬ Kn wb cg gs W.g.length av ov xv iv k → k < w.heap.size → ¬ Kn wb cg gs W.g.length av ov xv v' k := fun k hk hl q => by
    rcases q with q | q | q | q | q | q | q | q
    · exact hk (.inl q)
    · exact hk (.inr (.inl q))
    · exact hk (.inr (.inr (.inl q)))
    · exact hk (.inr (.inr (.inr (.inl q))))
    · exact hk (.inr (.inr (.inr (.inr (.inl q)))))
    · exact hk (.inr (.inr (.inr (.inr (.inr (.inl q))))))
    · exact hk (.inr (.inr (.inr (.inr (.inr (.inr (.inl q)))))))
    · exact (hat k q).elim (fun q => hk (.inr (.inr (.inr (.inr (.inr (.inr (.inr q)))))))) (fun q => by omega)
  rw [hw3]
  refine ⟨⟨?_, h.coFu hf hs (fun q => q.elim (fun e => h.wbC.1 e.symm) (fun e => (h.idsK e).2.1 rfl)) (fun q => q.elim (fun e => h.wbC.2 e.symm) (fun e => (h.idsK e).2.2.1 rfl)) (fun k hk hl => hkn k hk hl), fun i a e => ?_, h.inj, own_fu h.ptrs hf (fun g hg q => q.elim (h.ptrsK hg).1 (own_ne h.ptrs h.ids (by decide) hg)), own_fu h.os hf (fun g hg q => q.elim (h.osK hg).1 (own_ne h.os h.ids (by decide) hg)), own_fu h.ax hf (fun g hg q => q.elim (h.axK hg).1 (own_ne h.ax h.ids (by decide) hg)), ?_, h.low, fun k hk => ⟨hkn k (h.prot k hk).1 (h.prot k hk).2, Nat.lt_of_lt_of_le (h.prot k hk).2 hf.size⟩⟩, h.below hf hs⟩
  · have := hb2.setCell 4 v'
    rw [hw3] at this
    simpa [wa] using this
  · have hi := (List.getElem?_eq_some_iff.1 e).1
    exact (h.ag i a e).fu hf (fun q => q.elim (fun e => (h.wbA hi).1 e.symm) (fun e => ((h.idsK e).2.2.2.1 i hi).1 rfl)) (fun q => q.elim (fun e => (h.wbA hi).2 e.symm) (fun e => ((h.idsK e).2.2.2.1 i hi).2 rfl))
  · exact own_grown hv hset (fun k hk q => by injection q with q; exact hvW k hk q)
theorem WmX.cs (h : WmX w B P wb cg gs av ov xv iv W) : w.cell? ⟨wb, 0, none⟩ = some (.pointer (some ⟨cg + 1, 0, none⟩)) ∧ w.cell? ⟨wb, 1, none⟩ = some av ∧ w.cell? ⟨wb, 2, none⟩ = some ov ∧ w.cell? ⟨wb, 3, none⟩ = some xv ∧ w.cell? ⟨wb, 4, none⟩ = some iv :=
  ⟨h.blk.cell rfl, h.blk.cell rfl, h.blk.cell rfl, h.blk.cell rfl, h.blk.cell rfl⟩
/-- The pointer of an agent. -/
theorem WmX.ptr (h : WmX w B P wb cg gs av ov xv iv W) {A : Option Addr} {n c : Nat} (hv : av = .slice A n c) (hn : n = W.g.length) {i : Nat} (hi : i < n) : ∃ b o, A = some ⟨b, o, none⟩ ∧ w.cell? ⟨b, o + i, none⟩ = some (.pointer (some ⟨gs i + 1, 0, none⟩)) := by
  have hp := h.ptrs
  rw [hv, ← hn] at hp
  obtain ⟨b, o, e, hx, hc⟩ := (rd_own hp).at_ hi
  refine ⟨b, o, e, ?_⟩
  rw [hc]
  simp [gvs]
end
end Bar
end Go.Proofs.Ytpjbeodnalgkfaa
