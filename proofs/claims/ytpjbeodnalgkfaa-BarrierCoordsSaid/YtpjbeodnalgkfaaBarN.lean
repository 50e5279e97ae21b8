/- Layer 17: the mathematics: all or none, whatever happens (BarrierAll, BarrierTaken, BarrierStands). Nothing of the program is named here. -/
import Derived.Test.YtpjbeodnalgkfaaBarM
set_option linter.all false
namespace Go.Proofs.Ytpjbeodnalgkfaa
namespace Bar
section
variable {c : Co}
theorem turn_ok (h : CoOk c) {p : Int} (hp : 1 ≤ p ∧ p ≤ 4) (h0 : 0 < c.ph) : CoOk (turnC c p) :=
  ⟨⟨by simp only [turnC]; omega, hp.2⟩, fun _ => h.id1 h0, fun e => by simp only [turnC] at e; omega, h.two, h.pos, fun _ => h.new h0, fun _ => opn_all h.some_, by simp [turnC]; exact h.some_⟩
theorem turn0_ok (h : CoOk c) (h0 : c.ph = 0) : CoOk (turnC c 0) :=
  ⟨⟨Int.le_refl 0, by simp [turnC]⟩, fun e => absurd e (Int.lt_irrefl 0), fun _ => h.id0 h0, h.two, h.pos, fun e => absurd e (Int.lt_irrefl 0), fun e => absurd e (Int.lt_irrefl 0), by simp [turnC]; exact h.some_⟩
theorem turn_goes (h : CoOk c) {p : Int} (hp : 1 ≤ p ∧ p ≤ 4) (h0 : 0 < c.ph) (h3 : c.ph = 3 → p = 3) (h4 : c.ph = 4 → p = 4) : Goes c (turnC c p) :=
  ⟨fun x hx => st2.2 ((st2.1 hx).imp (fun q => q) (fun q => ⟨h3 q.1, q.2⟩)), fun x hx => (st3 (turn_ok h hp h0)).2 (((st3 h).1 hx).imp (fun q => q) (fun q => ⟨h4 q.1, q.2⟩)), fun x hx => st0.2 ((st0.1 hx).imp (fun q => q) (fun q => q.imp (fun q => q) (fun q => ⟨by simp only [turnC]; omega, q.2⟩))), by simp [turnC]⟩
theorem turn0_goes (h : CoOk c) (h0 : c.ph = 0) : Goes c (turnC c 0) :=
  ⟨fun x hx => st2.2 ((st2.1 hx).imp (fun q => q) (fun q => by omega)), fun x hx => (st3 (turn0_ok h h0)).2 (((st3 h).1 hx).imp (fun q => q) (fun q => by omega)), fun x hx => st0.2 ((st0.1 hx).imp (fun q => q) (fun q => q.imp (fun q => q) (fun q => by omega))), by simp [turnC]⟩
theorem ends_ok (h : CoOk c) (h0 : 0 < c.ph) : CoOk (endsC c) := by
  have hn := h.new h0
  have hi := h.id1 h0
  unfold endsC
  split
  · refine ⟨⟨Int.le_refl 0, by simp [turnC]⟩, fun e => absurd e (Int.lt_irrefl 0), fun _ => rfl, fun x hx => ?_, fun x hx => ?_, fun e => absurd e (Int.lt_irrefl 0), fun e => absurd e (Int.lt_irrefl 0), by simp [turnC]; exact h.some_⟩
    · rcases List.mem_append.1 hx with hx | hx
      · exact h.two x hx
      · rw [List.mem_singleton.1 hx]; exact hn.2
    · rcases hx with hx | hx
      · rcases List.mem_append.1 hx with hx | hx
        · exact h.pos x (.inl hx)
        · rw [List.mem_singleton.1 hx]; exact hi
      · exact h.pos x (.inr hx)
  · refine ⟨⟨Int.le_refl 0, by simp [turnC]⟩, fun e => absurd e (Int.lt_irrefl 0), fun _ => rfl, fun x hx => ?_, fun x hx => ?_, fun e => absurd e (Int.lt_irrefl 0), fun e => absurd e (Int.lt_irrefl 0), by simp [turnC]; exact h.some_⟩
    · intro hx2
      rcases List.mem_append.1 hx2 with hx2 | hx2
      · exact h.two x hx hx2
      · rw [List.mem_singleton.1 hx2] at hx; exact hn.1 hx
    · rcases hx with hx | hx
      · exact h.pos x (.inl hx)
      · rcases List.mem_append.1 hx with hx | hx
        · exact h.pos x (.inr hx)
        · rw [List.mem_singleton.1 hx]; exact hi
theorem ends_goes (h : CoOk c) (h3 : 3 ≤ c.ph) : Goes c (endsC c) := by
  have hk := ends_ok h (by omega)
  have hp := h.ph
  refine ⟨fun x hx => st2.2 (.inl ?_), fun x hx => (st3 hk).2 (.inl ?_), fun x hx => st0.2 ?_, by unfold endsC; split <;> simp [turnC]⟩
  · rcases st2.1 hx with q | q
    · unfold endsC; split <;> simp [turnC, q]
    · unfold endsC; rw [if_pos q.1]; simp [turnC, q.2]
  · rcases (st3 h).1 hx with q | q
    · unfold endsC; split <;> simp [turnC, q]
    · unfold endsC; rw [if_neg (by omega)]; simp [turnC, q.2]
  · rcases st0.1 hx with q | q | q
    · left; unfold endsC; split <;> simp [turnC, q]
    · right; left; unfold endsC; split <;> simp [turnC, q]
    · unfold endsC
      split
      · left; simp [turnC, q.2]
      · right; left; simp [turnC, q.2]
theorem beg_ok (h : CoOk c) {x : Int} (hx : begE c x = 0) : CoOk (turnC { c with id := x } 1) ∧ Goes c (turnC { c with id := x } 1) ∧ c.ph = 0 := by
  unfold begE at hx
  by_cases h1 : x < 1
  · rw [if_pos h1] at hx; cases hx
  · rw [if_neg h1] at hx
    by_cases h2 : 0 < c.ph
    · rw [if_pos h2] at hx; cases hx
    · rw [if_neg h2] at hx
      by_cases h3 : stC c x ≠ 0
      · rw [if_pos h3] at hx; cases hx
      · have h0 : c.ph = 0 := by have := h.ph.1; omega
        have h4 : ¬ (x ∈ c.cm ∨ x ∈ c.ab ∨ (0 < c.ph ∧ x = c.id)) := fun e => h3 (st0.2 e)
        have hk : CoOk (turnC { c with id := x } 1) := ⟨⟨by simp [turnC], by simp [turnC]⟩, fun _ => by simp only [turnC]; omega, fun e => by simp [turnC] at e, h.two, h.pos, fun _ => ⟨fun e => h4 (.inl e), fun e => h4 (.inr (.inl e))⟩, fun _ => opn_all h.some_, by simp [turnC]; exact h.some_⟩
        refine ⟨hk, ⟨fun y hy => st2.2 ((st2.1 hy).imp (fun q => q) (fun q => by omega)), fun y hy => (st3 hk).2 (((st3 h).1 hy).imp (fun q => q) (fun q => by omega)), fun y hy => st0.2 ((st0.1 hy).imp (fun q => q) (fun q => q.imp (fun q => q) (fun q => by omega))), by simp [turnC]⟩, h0⟩
theorem turn_set (a : Int) (p : Int) : turnC (setC c a) p = turnC c p := by simp [turnC, setC]
theorem ends_set (a : Int) : endsC (setC c a) = endsC c := by
  unfold endsC
  show turnC (if c.ph = 3 then _ else _) 0 = _
  split <;> simp [turnC, setC]
theorem go_set (a : Int) : goOn (setC c a) = goOn c := by
  unfold goOn
  show (if c.ph < 3 then turnC (setC c a) (c.ph + 1) else endsC (setC c a)) = _
  rw [turn_set, ends_set]
/-- What an answer does. -/
theorem hear_cases (h : CoOk c) (a k x : Int) : hearS c a k x = c ∨ (0 ≤ a ∧ a < c.ans.length ∧ 0 < c.ph ∧ x = c.id ∧
    ((c.ph < 3 ∧ k = 14 ∧ hearS c a k x = turnC c 4) ∨ (k = wantC c ∧ (∀ i, i < c.ans.length → (c.ans.set a.toNat true)[i]? = some true) ∧ hearS c a k x = goOn c) ∨
     (k = wantC c ∧ (∃ i, i < c.ans.length ∧ (c.ans.set a.toNat true)[i]? = some false) ∧ hearS c a k x = setC c a))) := by
  unfold hearS
  by_cases h0 : hearE c a k x ≠ 0
  · rw [if_pos h0]; exact .inl rfl
  · rw [if_neg h0]
    have hv : 0 ≤ a ∧ a < c.ans.length ∧ 0 < c.ph ∧ x = c.id := by
      have hp := h.ph
      unfold hearE at h0
      by_cases q : a < 0 ∨ (c.ans.length : Int) ≤ a ∨ k < 11 ∨ 14 < k
      · rw [if_pos q] at h0; exact absurd (by decide) h0
      · rw [if_neg q] at h0
        by_cases q2 : c.ph = 0 ∨ x ≠ c.id
        · rw [if_pos q2] at h0; exact absurd (by decide) h0
        · omega
    by_cases h1 : c.ph < 3 ∧ k = 14
    · rw [if_pos h1]; exact .inr ⟨hv.1, hv.2.1, hv.2.2.1, hv.2.2.2, .inl ⟨h1.1, h1.2, rfl⟩⟩
    · rw [if_neg h1]
      by_cases h2 : k ≠ wantC c
      · rw [if_pos h2]; exact .inl rfl
      · rw [if_neg h2]
        have h2 : k = wantC c := by simpa using h2
        refine .inr ⟨hv.1, hv.2.1, hv.2.2.1, hv.2.2.2, .inr ?_⟩
        by_cases h3 : ((setC c a).ans.all fun b => b) = true
        · rw [if_pos h3, go_set]
          refine .inl ⟨h2, fun i hi => ?_, rfl⟩
          rw [List.all_eq_true] at h3
          have hi2 : i < (c.ans.set a.toNat true).length := by rw [List.length_set]; exact hi
          rw [List.getElem?_eq_getElem hi2]
          exact congrArg some (h3 _ (List.getElem_mem hi2))
        · rw [if_neg h3]
          refine .inr ⟨h2, ?_, rfl⟩
          have h3 : ((setC c a).ans.all fun b => b) = false := by simpa using h3
          rw [List.all_eq_false] at h3
          obtain ⟨b, hb, hb2⟩ := h3
          obtain ⟨i, hi, e⟩ := List.mem_iff_getElem.1 hb
          have hi2 : i < (c.ans.set a.toNat true).length := hi
          refine ⟨i, by rwa [List.length_set] at hi2, ?_⟩
          rw [List.getElem?_eq_getElem hi2]
          have : b = false := by simpa using hb2
          exact congrArg some (e.trans this)
theorem set_ok (h : CoOk c) {a : Int} (ho : ∃ i, i < c.ans.length ∧ (c.ans.set a.toNat true)[i]? = some false) : CoOk (setC c a) := by
  obtain ⟨i, hi, e⟩ := ho
  exact ⟨h.ph, h.id1, h.id0, h.two, h.pos, h.new, fun _ => ⟨i, by simp [setC]; exact hi, e⟩, by simp [setC]; exact h.some_⟩
theorem set_goes (a : Int) : Goes c (setC c a) := ⟨fun _ h => h, fun _ h => h, fun _ h => h, by simp [setC]⟩
theorem no_true {n i : Nat} : (List.replicate n false)[i]? ≠ some true := by
  rw [List.getElem?_replicate]; split <;> simp
end
/-! ### the world -/
structure An where
  a : Int
  k : Int
  id : Int
structure Wd where
  c : Co
  g : List Ag
  os : List Odr
  ax : List An
  ids : List Int
def OsOk (c : Co) (o : Odr) : Prop := 1 ≤ o.id ∧ (o.k = 3 → stC c o.id = 2) ∧ (o.k = 4 → stC c o.id = 3)
def AsOk (c : Co) (g : List Ag) (y : An) : Prop := 1 ≤ y.id ∧ ∀ a, g[y.a.toNat]? = some a → (y.k = 12 → stC c y.id ≠ 3 → tk a y.id) ∧ (y.k = 13 → stC c y.id = 3 ∨ y.id ∈ a.cm)
def AnOk (c : Co) (g : List Ag) : Prop := ∀ (i : Nat) (a : Ag), c.ans[i]? = some true → g[i]? = some a → (c.ph = 2 → tk a c.id) ∧ (c.ph = 3 → c.id ∈ a.cm)
structure Inv (W : Wd) : Prop where
  co : CoOk W.c
  n : W.c.ans.length = W.g.length
  ids : ∀ x ∈ W.ids, stC W.c x ≠ 0
  ag : ∀ a ∈ W.g, agOk a
  cmt : ∀ a ∈ W.g, ∀ x ∈ a.cm, stC W.c x = 2
  all : ∀ x, stC W.c x = 2 → ∀ a ∈ W.g, tk a x
  fin : ∀ x ∈ W.c.cm, ∀ a ∈ W.g, x ∈ a.cm
  os : ∀ o ∈ W.os, OsOk W.c o
  ax : ∀ y ∈ W.ax, AsOk W.c W.g y
  an : AnOk W.c W.g
def wd0 (n : Nat) : Wd := ⟨co0 n, List.replicate n ag0, [], [], []⟩
theorem inv0 {n : Nat} (h : 1 ≤ n) : Inv (wd0 n) := by
  have hst : ∀ x, stC (co0 n) x = 2 → False := fun x hx => by
    rcases st2.1 hx with q | q
    · cases q
    · exact absurd q.1 (by simp [co0])
  refine ⟨co0_ok h, by simp [wd0, co0], (fun x hx => by cases hx), ?_, ?_, fun x hx => (hst x hx).elim, (fun x hx => by cases hx), (fun x hx => by cases hx), (fun x hx => by cases hx), fun i a hi => (no_true hi).elim⟩
  · intro a ha
    rw [List.eq_of_mem_replicate ha]
    exact ⟨fun h => absurd rfl h, by simp [ag0], by simp [ag0]⟩
  · intro a ha x hx
    rw [List.eq_of_mem_replicate ha] at hx
    cases hx
section
variable {W : Wd}
/-- The coordinator goes on. -/
theorem inv_co (h : Inv W) {c' : Co} (hk : CoOk c') (hg : Goes W.c c') (h2 : ∀ x, stC c' x = 2 → stC W.c x = 2 ∨ ∀ a ∈ W.g, tk a x) (hf : ∀ x ∈ c'.cm, x ∈ W.c.cm ∨ ∀ a ∈ W.g, x ∈ a.cm) (ha : AnOk c' W.g) : Inv { W with c := c' } := by
  obtain ⟨g2, g3, g0, gl⟩ := hg
  refine ⟨hk, by rw [gl]; exact h.n, fun x hx => g0 x (h.ids x hx), h.ag, fun a ha x hx => g2 x (h.cmt a ha x hx), fun x hx => (h2 x hx).elim (h.all x) (fun q => q), fun x hx => (hf x hx).elim (h.fin x) (fun q => q), fun o ho => ?_, fun y hy => ?_, ha⟩
  · obtain ⟨q1, q2, q3⟩ := h.os o ho
    exact ⟨q1, fun e => g2 _ (q2 e), fun e => g3 _ (q3 e)⟩
  · obtain ⟨q1, q2⟩ := h.ax y hy
    refine ⟨q1, fun a ea => ⟨fun e e3 => (q2 a ea).1 e (fun q => e3 (g3 _ q)), fun e => ((q2 a ea).2 e).imp (g3 _) (fun q => q)⟩⟩
theorem inv_turn (h : Inv W) {p : Int} (hp : 1 ≤ p ∧ p ≤ 4) (h0 : 0 < W.c.ph) (h3 : W.c.ph = 3 → p = 3) (h4 : W.c.ph = 4 → p = 4) (h2 : p = 3 → W.c.ph ≠ 3 → ∀ a ∈ W.g, tk a W.c.id) : Inv { W with c := turnC W.c p } := by
  refine inv_co h (turn_ok h.co hp h0) (turn_goes h.co hp h0 h3 h4) (fun x hx => ?_) (fun x hx => .inl hx) (fun i a hi => (no_true hi).elim)
  rcases st2.1 hx with q | q
  · exact .inl (st2.2 (.inl q))
  · by_cases e : W.c.ph = 3
    · exact .inl (st2.2 (.inr ⟨e, q.2⟩))
    · refine .inr (fun a ha => ?_)
      have := h2 q.1 e a ha
      rw [q.2]; exact this
theorem st_run (h : CoOk W.c) (h0 : 0 < W.c.ph) (h3 : W.c.ph < 3) : stC W.c W.c.id = 1 := by
  have hn := h.new h0
  unfold stC
  rw [if_neg (fun q => q.elim hn.1 (fun q => by omega)), if_neg (fun q => q.elim hn.2 (fun q => by omega)), if_pos ⟨h0, rfl⟩]
theorem inv_hear (h : Inv W) {y : An} (hy : AsOk W.c W.g y) : Inv { W with c := hearS W.c y.a y.k y.id } := by
  rcases hear_cases h.co y.a y.k y.id with e | ⟨ha0, hal, hp0, hid, hc⟩
  · rw [e]; exact h
  · have hph := h.co.ph
    -- what the agent that answered has
    have hag : ∀ (i : Nat) (a : Ag), W.g[i]? = some a → (W.c.ans.set y.a.toNat true)[i]? = some true → y.k = wantC W.c → (W.c.ph = 2 → tk a W.c.id) ∧ (W.c.ph = 3 → W.c.id ∈ a.cm) := by
      intro i a hi ht hk
      by_cases e : y.a.toNat = i
      · subst e
        have q := hy.2 a hi
        rw [hid] at q
        refine ⟨fun hp => q.1 (by rw [hk]; unfold wantC; rw [if_neg (by omega), hp]; rfl) (by rw [st_run h.co hp0 (by omega)]; decide), fun hp => ?_⟩
        have h2 : stC W.c W.c.id = 2 := st2.2 (.inr ⟨hp, rfl⟩)
        exact (q.2 (by rw [hk]; unfold wantC; rw [if_pos (by omega)])).resolve_left (by omega)
      · rw [List.getElem?_set_ne e] at ht
        exact h.an i a ht hi
    have hmem : ∀ a ∈ W.g, ∃ i, i < W.c.ans.length ∧ W.g[i]? = some a := fun a ha => by
      obtain ⟨i, hi, e⟩ := List.mem_iff_getElem.1 ha
      exact ⟨i, by rw [h.n]; exact hi, by rw [List.getElem?_eq_getElem hi, e]⟩
    rcases hc with ⟨hp, -, e⟩ | ⟨hk, hall, e⟩ | ⟨hk, hopn, e⟩
    · rw [e]
      exact inv_turn h (by omega) hp0 (by omega) (by omega) (fun e => absurd e (by decide))
    · rw [e]
      unfold goOn
      split
      · refine inv_turn h (by omega) hp0 (by omega) (by omega) (fun e1 e2 a ha => ?_)
        obtain ⟨i, hi, ei⟩ := hmem a ha
        exact (hag i a ei (hall i hi) hk).1 (by omega)
      · refine inv_co h (ends_ok h.co hp0) (ends_goes h.co (by omega)) (fun x hx => .inl ?_) (fun x hx => ?_) (fun i a hi => ?_)
        · rcases st2.1 hx with q | q
          · unfold endsC at q
            split at q
            · rename_i e3
              rcases List.mem_append.1 q with q | q
              · exact st2.2 (.inl q)
              · exact st2.2 (.inr ⟨e3, List.mem_singleton.1 q⟩)
            · exact st2.2 (.inl q)
          · have : (endsC W.c).ph = 0 := by unfold endsC; split <;> rfl
            omega
        · unfold endsC at hx
          split at hx
          · rename_i e3
            rcases List.mem_append.1 hx with q | q
            · exact .inl q
            · right
              intro a ha
              obtain ⟨i, hi, ei⟩ := hmem a ha
              rw [List.mem_singleton.1 q]
              exact (hag i a ei (hall i hi) hk).2 e3
          · exact .inl hx
        · exfalso
          unfold endsC at hi
          split at hi <;> exact no_true hi
    · rw [e]
      exact inv_co h (set_ok h.co hopn) (set_goes _) (fun x hx => .inl hx) (fun x hx => .inl hx) (fun i a hi ei => hag i a ei hi hk)
/-- An agent goes on. -/
def wAg (W : Wd) (i : Nat) (a' : Ag) : Wd := { W with g := W.g.set i a' }
theorem inv_ag (h : Inv W) {i : Nat} {a a' : Ag} (hi : W.g[i]? = some a) (h1 : agOk a') (h2 : ∀ x ∈ a.cm, x ∈ a'.cm) (h3 : ∀ x ∈ a'.cm, stC W.c x = 2) (h4 : ∀ x, 1 ≤ x → stC W.c x ≠ 3 → tk a x → tk a' x) : Inv (wAg W i a') := by
  have hlt := (List.getElem?_eq_some_iff.1 hi).1
  have hm : ∀ b ∈ W.g.set i a', b ∈ W.g ∨ b = a' := fun b hb => List.mem_or_eq_of_mem_set hb
  have hat : ∀ (j : Nat) (b : Ag), (W.g.set i a')[j]? = some b → (j = i ∧ b = a') ∨ (j ≠ i ∧ W.g[j]? = some b) := fun j b hb => by
    by_cases e : i = j
    · subst e
      rw [List.getElem?_set_self hlt] at hb
      injection hb with hb
      exact .inl ⟨rfl, hb.symm⟩
    · rw [List.getElem?_set_ne e] at hb
      exact .inr ⟨fun q => e q.symm, hb⟩
  have ha : a ∈ W.g := List.mem_of_getElem? hi
  have hpos2 : ∀ x, stC W.c x = 2 → 1 ≤ x := fun x hx => by
    rcases st2.1 hx with q | q
    · exact h.co.pos x (.inl q)
    · rw [q.2]; exact h.co.id1 (by omega)
  refine ⟨h.co, by show _ = (W.g.set i a').length; rw [List.length_set]; exact h.n, h.ids, fun b hb => ?_, fun b hb => ?_, fun x hx b hb => ?_, fun x hx b hb => ?_, h.os, fun y hy => ?_, fun j b hj hb => ?_⟩
  · exact (hm b hb).elim (h.ag b) (fun e => e ▸ h1)
  · exact (hm b hb).elim (h.cmt b) (fun e => e ▸ h3)
  · exact (hm b hb).elim (h.all x hx b) (fun e => e ▸ h4 x (hpos2 x hx) (by have : stC W.c x = 2 := hx; omega) (h.all x hx a ha))
  · exact (hm b hb).elim (h.fin x hx b) (fun e => e ▸ h2 x (h.fin x hx a ha))
  · obtain ⟨q1, q2⟩ := h.ax y hy
    refine ⟨q1, fun b hb => ?_⟩
    rcases hat _ b hb with ⟨e1, e2⟩ | ⟨e1, e2⟩
    · subst e2
      rw [e1] at q2
      obtain ⟨p1, p2⟩ := q2 a hi
      exact ⟨fun e3 e4 => h4 _ q1 e4 (p1 e3 e4), fun e3 => (p2 e3).imp (fun q => q) (h2 _)⟩
    · exact q2 b e2
  · rcases hat _ b hb with ⟨e1, e2⟩ | ⟨e1, e2⟩
    · subst e2 e1
      obtain ⟨p1, p2⟩ := h.an _ a hj hi
      refine ⟨fun e => ?_, fun e => h2 _ (p2 e)⟩
      have e' : W.c.ph = 2 := e
      exact h4 _ (h.co.id1 (by omega)) (by show stC W.c W.c.id ≠ 3; rw [st_run h.co (by omega) (by omega)]; decide) (p1 e)
    · exact h.an j b hj e2
theorem inv_ord (h : Inv W) {i : Nat} {a : Ag} (hi : W.g[i]? = some a) {o : Odr} (ho : OsOk W.c o) : Inv (wAg W i (ordS a o.k o.id)) ∧ AsOk W.c (wAg W i (ordS a o.k o.id)).g ⟨i, ordK a o.k o.id, o.id⟩ := by
  have ha : a ∈ W.g := List.mem_of_getElem? hi
  have hlt := (List.getElem?_eq_some_iff.1 hi).1
  refine ⟨inv_ag h hi (agOk_ord (h.ag a ha) _ _) (fun x hx => cm_ord.2 (.inl hx)) (fun x hx => ?_) (fun x hx hs ht => tk_ord (h.ag a ha) hx ht (fun e1 e2 => ?_)), ho.1, fun b hb => ?_⟩
  · rcases cm_ord.1 hx with q | q
    · exact h.cmt a ha x q
    · rw [q.2.1]; exact ho.2.1 q.1
  · exfalso; exact hs (e2 ▸ ho.2.2 e1)
  · have hb' : (W.g.set i (ordS a o.k o.id))[((i : Nat) : Int).toNat]? = some b := hb
    rw [Int.toNat_natCast] at hb'
    rw [List.getElem?_set_self hlt] at hb'
    injection hb' with hb'
    subst hb'
    exact ⟨fun e _ => snap_tk e, fun e => (done_cm e).imp (fun q => ho.2.2 q) (fun q => q)⟩
theorem inv_crash (h : Inv W) {i : Nat} {a : Ag} (hi : W.g[i]? = some a) : Inv (wAg W i (crA a)) :=
  inv_ag h hi (agOk_cr (h.ag a (List.mem_of_getElem? hi))) (fun x hx => hx) (fun x hx => h.cmt a (List.mem_of_getElem? hi) x hx) (fun x _ _ ht => ht)
theorem step_os (h : Inv W) : ∀ o ∈ stepL W.c, OsOk W.c o ∧ ∃ i : Nat, o.a = (i : Int) ∧ i < W.g.length ∧ o.k = W.c.ph ∧ o.id = W.c.id := by
  intro o ho
  unfold stepL at ho
  split at ho
  · rename_i hp
    obtain ⟨i, hi, rfl⟩ := List.mem_map.1 ho
    have hi := List.mem_range.1 (List.mem_filter.1 hi).1
    exact ⟨⟨h.co.id1 hp, fun e => st2.2 (.inr ⟨e, rfl⟩), fun e => (st3 h.co).2 (.inr ⟨e, rfl⟩)⟩, i, rfl, by rw [← h.n]; exact hi, rfl, rfl⟩
  · cases ho
/-! ### what happens -/
def wBeg (W : Wd) (x : Int) : Wd := if begE W.c x = 0 then { W with c := begS W.c x, ids := W.ids ++ [x] } else W
def wStep (W : Wd) : Wd := if W.os.length < 300 then { W with os := W.os ++ stepL W.c } else W
def wOrd (W : Wd) (o : Odr) : Wd :=
  if o.a < 0 ∨ (W.g.length : Int) ≤ o.a then W
  else { wAg W o.a.toNat (ordS (W.g.getD o.a.toNat ag0) o.k o.id) with ax := if W.ax.length < 300 then W.ax ++ [⟨o.a, ordK (W.g.getD o.a.toNat ag0) o.k o.id, o.id⟩] else W.ax }
def hasI (n : Nat) (i : Int) : Bool := decide (0 ≤ i) && decide (i < (n : Int))
def wLose (W : Wd) (i : Int) : Wd := if hasI W.os.length i then { W with os := W.os.eraseIdx i.toNat } else W
def wTwo (W : Wd) (i : Int) : Wd := if hasI W.os.length i then wOrd W (W.os.getD i.toNat ⟨0, 0, 0⟩) else W
def wDel (W : Wd) (i : Int) : Wd := if hasI W.os.length i then wOrd { W with os := W.os.eraseIdx i.toNat } (W.os.getD i.toNat ⟨0, 0, 0⟩) else W
def wHear (W : Wd) (i : Int) : Wd :=
  if hasI W.ax.length i then { W with ax := W.ax.eraseIdx i.toNat, c := hearS W.c (W.ax.getD i.toNat ⟨0, 0, 0⟩).a (W.ax.getD i.toNat ⟨0, 0, 0⟩).k (W.ax.getD i.toNat ⟨0, 0, 0⟩).id } else W
def wCrA (W : Wd) (i : Int) : Wd := if hasI W.g.length i then wAg W i.toNat (crA (W.g.getD i.toNat ag0)) else W
def wAb (W : Wd) : Wd := { W with c := abS W.c }
def wCr (W : Wd) : Wd := { W with c := crS W.c }
theorem hasI_lt {n : Nat} {i : Int} (h : hasI n i = true) : i.toNat < n := by
  simp [hasI] at h; omega
theorem getD_some {α : Type} {l : List α} {i : Nat} {d : α} (h : i < l.length) : l[i]? = some (l.getD i d) := by
  rw [List.getElem?_eq_getElem h, List.getD, List.getElem?_eq_getElem h]; rfl
theorem inv_beg (h : Inv W) (x : Int) : Inv (wBeg W x) := by
  unfold wBeg
  split
  · rename_i hx
    obtain ⟨b1, b2, b3⟩ := beg_ok h.co hx
    have e : begS W.c x = turnC { W.c with id := x } 1 := by unfold begS; rw [if_pos hx]
    rw [e]
    have hI := inv_co h b1 b2 (fun y hy => .inl ((st2.1 hy).elim (fun q => st2.2 (.inl q)) (fun q => absurd q.1 (by simp [turnC])))) (fun y hy => .inl hy) (fun i a hi => (no_true hi).elim)
    refine ⟨hI.co, hI.n, fun y hy => ?_, hI.ag, hI.cmt, hI.all, hI.fin, hI.os, hI.ax, hI.an⟩
    rcases List.mem_append.1 hy with hy | hy
    · exact hI.ids y hy
    · rw [List.mem_singleton.1 hy]
      exact st0.2 (.inr (.inr ⟨by simp [turnC], rfl⟩))
  · exact h
theorem inv_step (h : Inv W) : Inv (wStep W) := by
  unfold wStep
  split
  · refine ⟨h.co, h.n, h.ids, h.ag, h.cmt, h.all, h.fin, fun o ho => ?_, h.ax, h.an⟩
    rcases List.mem_append.1 ho with ho | ho
    · exact h.os o ho
    · exact (step_os h o ho).1
  · exact h
theorem inv_wOrd (h : Inv W) {o : Odr} (ho : OsOk W.c o) : Inv (wOrd W o) := by
  unfold wOrd
  split
  · exact h
  · have hlt : o.a.toNat < W.g.length := by omega
    obtain ⟨h1, h2⟩ := inv_ord h (getD_some (d := ag0) hlt) ho
    refine ⟨h1.co, h1.n, h1.ids, h1.ag, h1.cmt, h1.all, h1.fin, h1.os, fun y hy => ?_, h1.an⟩
    split at hy
    · rcases List.mem_append.1 hy with hy | hy
      · exact h1.ax y hy
      · rw [List.mem_singleton.1 hy]
        rw [show ((o.a.toNat : Nat) : Int) = o.a by omega] at h2
        exact h2
    · exact h1.ax y hy
theorem inv_lose (h : Inv W) (i : Int) : Inv (wLose W i) := by
  unfold wLose
  split
  · exact ⟨h.co, h.n, h.ids, h.ag, h.cmt, h.all, h.fin, fun o ho => h.os o (List.mem_of_mem_eraseIdx ho), h.ax, h.an⟩
  · exact h
theorem os_at (h : Inv W) {i : Int} (hi : hasI W.os.length i = true) : OsOk W.c (W.os.getD i.toNat ⟨0, 0, 0⟩) := h.os _ (List.mem_of_getElem? (getD_some (hasI_lt hi)))
theorem inv_two (h : Inv W) (i : Int) : Inv (wTwo W i) := by
  unfold wTwo
  split
  · rename_i hi; exact inv_wOrd h (os_at h hi)
  · exact h
theorem inv_del (h : Inv W) (i : Int) : Inv (wDel W i) := by
  have hl := inv_lose h i
  unfold wDel
  unfold wLose at hl
  split
  · rename_i hi
    rw [if_pos hi] at hl
    exact inv_wOrd hl (os_at h hi)
  · exact h
theorem inv_wHear (h : Inv W) (i : Int) : Inv (wHear W i) := by
  unfold wHear
  split
  · rename_i hi
    have hI := inv_hear h (h.ax _ (List.mem_of_getElem? (getD_some (d := ⟨0, 0, 0⟩) (hasI_lt hi))))
    exact ⟨hI.co, hI.n, hI.ids, hI.ag, hI.cmt, hI.all, hI.fin, hI.os, fun y hy => hI.ax y (List.mem_of_mem_eraseIdx hy), hI.an⟩
  · exact h
theorem inv_crA (h : Inv W) (i : Int) : Inv (wCrA W i) := by
  unfold wCrA
  split
  · rename_i hi; exact inv_crash h (getD_some (hasI_lt hi))
  · exact h
theorem inv_ab (h : Inv W) : Inv (wAb W) := by
  unfold wAb abS
  split
  · rename_i e
    have hp : W.c.ph = 1 ∨ W.c.ph = 2 := by
      unfold abE at e
      by_cases q : W.c.ph = 1 ∨ W.c.ph = 2
      · exact q
      · rw [if_neg q] at e; cases e
    exact inv_turn h (by omega) (by omega) (by omega) (by omega) (fun e => absurd e (by decide))
  · exact h
theorem inv_cr (h : Inv W) : Inv (wCr W) := by
  unfold wCr crS
  split
  · rename_i e
    have hp : W.c.ph = 1 ∨ W.c.ph = 2 := by
      unfold abE at e
      by_cases q : W.c.ph = 1 ∨ W.c.ph = 2
      · exact q
      · rw [if_neg q] at e; cases e
    exact inv_turn h (by omega) (by omega) (by omega) (by omega) (fun e => absurd e (by decide))
  · rename_i e
    have hph := h.co.ph
    have hp : ¬ (W.c.ph = 1 ∨ W.c.ph = 2) := fun q => e (by unfold abE; rw [if_pos q])
    by_cases h0 : W.c.ph = 0
    · rw [h0]
      refine inv_co h (turn0_ok h.co h0) (turn0_goes h.co h0) (fun x hx => .inl ?_) (fun x hx => .inl hx) (fun i a hi => (no_true hi).elim)
      rcases st2.1 hx with q | q
      · exact st2.2 (.inl q)
      · exact absurd q.1 (by simp [turnC])
    · exact inv_turn h (by omega) (by omega) (fun e => e) (fun e => e) (fun e1 e2 => absurd e1 e2)
/-- BarrierAll: what is right of each snapshot. -/
theorem inv_right (h : Inv W) (x : Int) : ((∃ a ∈ W.g, x ∈ a.cm) → stC W.c x = 2) ∧ (stC W.c x = 2 → ∀ a ∈ W.g, x ∈ a.cm ∨ a.pr = x) :=
  ⟨fun ⟨a, ha, hx⟩ => h.cmt a ha x hx, fun hx => h.all x hx⟩
end
end Bar
end Go.Proofs.Ytpjbeodnalgkfaa
