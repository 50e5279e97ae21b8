/- Layer 17: the mathematics of snapshots of all or of none: agents, a coordinator, what is on its way. Nothing of the program is named here. -/
import Derived.Test.YtpjbeodnalgkfaaTurn
set_option linter.all false
namespace Go.Proofs.Ytpjbeodnalgkfaa
namespace Bar
/-! ### an agent -/
structure Ag where
  fz : Int
  pr : Int
  cm : List Int
def ag0 : Ag := ⟨0, 0, []⟩
def refF (a : Ag) (id : Int) : Prop := id ∈ a.cm ∨ (a.fz ≠ 0 ∧ a.fz ≠ id) ∨ (a.pr ≠ 0 ∧ a.pr ≠ id)
instance (a : Ag) (id : Int) : Decidable (refF a id) := by unfold refF; infer_instance
/-- What it answers an order, and leaves. -/
def ordK (a : Ag) (k id : Int) : Int :=
  if id < 1 then 0
  else if k = 1 then (if refF a id then 14 else 11)
  else if k = 2 then (if a.pr ≠ id ∧ a.fz ≠ id then 14 else 12)
  else if k = 3 then (if a.pr = id ∨ id ∈ a.cm then 13 else 14)
  else if k = 4 then (if id ∈ a.cm then 14 else 13)
  else 0
def ordS (a : Ag) (k id : Int) : Ag :=
  if id < 1 then a
  else if k = 1 then (if refF a id then a else { a with fz := id })
  else if k = 2 then (if a.pr ≠ id ∧ a.fz ≠ id then a else { a with pr := id })
  else if k = 3 then (if a.pr = id then ⟨0, 0, a.cm ++ [id]⟩ else a)
  else if k = 4 then (if id ∈ a.cm then a else ⟨if a.fz = id then 0 else a.fz, if a.pr = id then 0 else a.pr, a.cm⟩)
  else a
def crA (a : Ag) : Ag := { a with fz := 0 }
/-- Prepared or committed. -/
def tk (a : Ag) (id : Int) : Prop := id ∈ a.cm ∨ a.pr = id
/-- What always holds of an agent. -/
def agOk (a : Ag) : Prop := (a.fz ≠ 0 → a.pr = 0 ∨ a.pr = a.fz) ∧ 0 ≤ a.pr ∧ 0 ≤ a.fz
theorem agOk_ord {a : Ag} (h : agOk a) (k id : Int) : agOk (ordS a k id) := by
  obtain ⟨h1, h2, h3⟩ := h
  unfold ordS
  split
  · exact ⟨h1, h2, h3⟩
  · split
    · by_cases q : refF a id
      · rw [if_pos q]; exact ⟨h1, h2, h3⟩
      · rw [if_neg q]
        simp only [refF, not_or, not_and, Decidable.not_not] at q
        refine ⟨fun _ => ?_, h2, by simp only; omega⟩
        simp only
        by_cases e : a.pr = 0
        · exact .inl e
        · exact .inr (q.2.2 e)
    · split
      · split
        · exact ⟨h1, h2, h3⟩
        · rename_i q
          refine ⟨fun hf => ?_, by simp only; omega, h3⟩
          simp only at hf ⊢
          right
          by_cases e : a.fz = id
          · exact e.symm
          · have : a.pr = id := by omega
            have := h1 hf
            omega
      · split
        · split
          · exact ⟨fun h => absurd rfl h, by simp, by simp⟩
          · exact ⟨h1, h2, h3⟩
        · split
          · split
            · exact ⟨h1, h2, h3⟩
            · refine ⟨fun hf => ?_, ?_, ?_⟩
              · simp only at hf ⊢
                split at hf
                · exact absurd rfl hf
                · have := h1 hf
                  split <;> simp_all
              · simp only; split <;> omega
              · simp only; split <;> omega
          · exact ⟨h1, h2, h3⟩
theorem agOk_cr {a : Ag} (h : agOk a) : agOk (crA a) := ⟨fun h => absurd rfl h, h.2.1, by simp [crA]⟩
/-- What was committed stays; what comes new was ordered. -/
theorem cm_ord {a : Ag} {k id x : Int} : x ∈ (ordS a k id).cm ↔ x ∈ a.cm ∨ (k = 3 ∧ x = id ∧ 1 ≤ id ∧ a.pr = id) := by
  unfold ordS
  by_cases h0 : id < 1
  · rw [if_pos h0]
    exact ⟨.inl, fun h => h.elim (fun h => h) (fun h => by omega)⟩
  · rw [if_neg h0]
    by_cases h1 : k = 1
    · rw [if_pos h1]
      split <;> exact ⟨.inl, fun h => h.elim (fun h => h) (fun h => by omega)⟩
    · rw [if_neg h1]
      by_cases h2 : k = 2
      · rw [if_pos h2]
        split <;> exact ⟨.inl, fun h => h.elim (fun h => h) (fun h => by omega)⟩
      · rw [if_neg h2]
        by_cases h3 : k = 3
        · rw [if_pos h3]
          split
          · rename_i hp
            simp only [List.mem_append, List.mem_singleton]
            exact ⟨fun h => h.imp (fun h => h) (fun h => ⟨h3, h, by omega, hp⟩), fun h => h.imp (fun h => h) (fun h => h.2.1)⟩
          · rename_i hp
            exact ⟨.inl, fun h => h.elim (fun h => h) (fun h => absurd h.2.2.2 hp)⟩
        · rw [if_neg h3]
          split
          · split <;> exact ⟨.inl, fun h => h.elim (fun h => h) (fun h => by omega)⟩
          · exact ⟨.inl, fun h => h.elim (fun h => h) (fun h => by omega)⟩
/-- What is taken stays, but by an order to abort it. -/
theorem tk_ord {a : Ag} (h : agOk a) {k id x : Int} (hx : 1 ≤ x) (ht : tk a x) (hk : k = 4 → id = x → x ∈ a.cm) : tk (ordS a k id) x := by
  rcases ht with ht | ht
  · exact .inl (cm_ord.2 (.inl ht))
  · obtain ⟨h1, h2, h3⟩ := h
    unfold ordS tk
    by_cases h0 : id < 1
    · rw [if_pos h0]; exact .inr ht
    · rw [if_neg h0]
      by_cases k1 : k = 1
      · rw [if_pos k1]; split <;> exact .inr ht
      · rw [if_neg k1]
        by_cases k2 : k = 2
        · rw [if_pos k2]
          split
          · exact .inr ht
          · rename_i q
            right
            show id = x
            by_cases e : a.fz = id
            · have := h1 (by omega); omega
            · omega
        · rw [if_neg k2]
          by_cases k3 : k = 3
          · rw [if_pos k3]
            split
            · left; simp; right; omega
            · exact .inr ht
          · rw [if_neg k3]
            by_cases k4 : k = 4
            · rw [if_pos k4]
              by_cases e : id = x
              · subst e
                rw [if_pos (hk k4 rfl)]
                exact .inr ht
              · split
                · exact .inr ht
                · right
                  show (if a.pr = id then 0 else a.pr) = x
                  rw [if_neg (by omega)]; exact ht
            · rw [if_neg k4]; exact .inr ht
theorem tk_cr {a : Ag} {x : Int} (h : tk a x) : tk (crA a) x := h
/-- What an answer tells. -/
theorem snap_tk {a : Ag} {k id : Int} (h : ordK a k id = 12) : tk (ordS a k id) id := by
  unfold ordK at h
  unfold ordS tk
  by_cases h0 : id < 1
  · rw [if_pos h0] at h; cases h
  · rw [if_neg h0] at h ⊢
    by_cases k1 : k = 1
    · rw [if_pos k1] at h; split at h <;> cases h
    · rw [if_neg k1] at h ⊢
      by_cases k2 : k = 2
      · rw [if_pos k2] at h ⊢
        split at h
        · cases h
        · rename_i q
          rw [if_neg q]
          exact .inr rfl
      · rw [if_neg k2] at h
        split at h
        · split at h <;> cases h
        · split at h
          · split at h <;> cases h
          · cases h
theorem done_cm {a : Ag} {k id : Int} (h : ordK a k id = 13) : k = 4 ∨ id ∈ (ordS a k id).cm := by
  unfold ordK at h
  unfold ordS
  by_cases h0 : id < 1
  · rw [if_pos h0] at h; cases h
  · rw [if_neg h0] at h ⊢
    by_cases k1 : k = 1
    · rw [if_pos k1] at h; split at h <;> cases h
    · rw [if_neg k1] at h ⊢
      by_cases k2 : k = 2
      · rw [if_pos k2] at h; split at h <;> cases h
      · rw [if_neg k2] at h ⊢
        by_cases k3 : k = 3
        · rw [if_pos k3] at h ⊢
          split at h
          · rename_i q
            right
            by_cases e : a.pr = id
            · rw [if_pos e]; simp
            · rw [if_neg e]; exact q.resolve_left e
          · cases h
        · rw [if_neg k3] at h
          by_cases k4 : k = 4
          · exact .inl k4
          · rw [if_neg k4] at h; cases h
/-- BarrierTaken. -/
theorem pr_taken {a : Ag} {k id : Int} (h0 : (ordS a k id).pr ≠ 0) (h : (ordS a k id).pr ≠ a.pr) : a.fz = (ordS a k id).pr := by
  unfold ordS at *
  by_cases c0 : id < 1
  · rw [if_pos c0] at h; exact absurd rfl h
  · rw [if_neg c0] at *
    by_cases k1 : k = 1
    · rw [if_pos k1] at *; split at h <;> exact absurd rfl h
    · rw [if_neg k1] at *
      by_cases k2 : k = 2
      · rw [if_pos k2] at *
        split at h
        · exact absurd rfl h
        · rename_i q
          rw [if_neg q]
          simp only at h ⊢
          omega
      · rw [if_neg k2] at *
        by_cases k3 : k = 3
        · rw [if_pos k3] at *
          split at h
          · rename_i q
            rw [if_pos q] at h0
            exact absurd rfl h0
          · exact absurd rfl h
        · rw [if_neg k3] at *
          by_cases k4 : k = 4
          · rw [if_pos k4] at *
            by_cases q : id ∈ a.cm
            · rw [if_pos q] at h; exact absurd rfl h
            · rw [if_neg q] at *
              simp only at h h0 ⊢
              split at h
              · rename_i e; rw [if_pos e] at h0; exact absurd rfl h0
              · exact absurd rfl h
          · rw [if_neg k4] at h; exact absurd rfl h
/-! ### a coordinator -/
structure Co where
  ans : List Bool
  ph : Int
  id : Int
  cm : List Int
  ab : List Int
structure Odr where
  a : Int
  k : Int
  id : Int
def co0 (n : Nat) : Co := ⟨List.replicate n false, 0, 0, [], []⟩
def newE (n : Int) : Int := if n < 1 ∨ 16 < n then 1 else 0
def turnC (c : Co) (p : Int) : Co := { c with ph := p, ans := List.replicate c.ans.length false }
def stC (c : Co) (x : Int) : Int := if x ∈ c.cm ∨ (c.ph = 3 ∧ x = c.id) then 2 else if x ∈ c.ab ∨ (c.ph = 4 ∧ x = c.id) then 3 else if 0 < c.ph ∧ x = c.id then 1 else 0
def begE (c : Co) (x : Int) : Int := if x < 1 then 1 else if 0 < c.ph then 11 else if stC c x ≠ 0 then 10 else if 1024 ≤ c.cm.length + c.ab.length then 6 else 0
def begS (c : Co) (x : Int) : Co := if begE c x = 0 then turnC { c with id := x } 1 else c
def stepL (c : Co) : List Odr := if 0 < c.ph then ((List.range c.ans.length).filter fun i => !(c.ans.getD i true)).map (fun (i : Nat) => (⟨(i : Int), c.ph, c.id⟩ : Odr)) else []
def endsC (c : Co) : Co := turnC (if c.ph = 3 then { c with cm := c.cm ++ [c.id], id := 0 } else { c with ab := c.ab ++ [c.id], id := 0 }) 0
def hearE (c : Co) (a k x : Int) : Int := if a < 0 ∨ (c.ans.length : Int) ≤ a ∨ k < 11 ∨ 14 < k then 1 else if c.ph = 0 ∨ x ≠ c.id then 11 else 0
def wantC (c : Co) : Int := if 3 ≤ c.ph then 13 else c.ph + 10
def setC (c : Co) (a : Int) : Co := { c with ans := c.ans.set a.toNat true }
def goOn (c : Co) : Co := if c.ph < 3 then turnC c (c.ph + 1) else endsC c
def hearS (c : Co) (a k x : Int) : Co :=
  if hearE c a k x ≠ 0 then c
  else if c.ph < 3 ∧ k = 14 then turnC c 4
  else if k ≠ wantC c then c
  else if (setC c a).ans.all (fun b => b) then goOn (setC c a) else setC c a
def abE (c : Co) : Int := if c.ph = 1 ∨ c.ph = 2 then 0 else 11
def abS (c : Co) : Co := if abE c = 0 then turnC c 4 else c
def crS (c : Co) : Co := if abE c = 0 then turnC c 4 else turnC c c.ph
/-- What always holds of a coordinator. -/
structure CoOk (c : Co) : Prop where
  ph : 0 ≤ c.ph ∧ c.ph ≤ 4
  id1 : 0 < c.ph → 1 ≤ c.id
  id0 : c.ph = 0 → c.id = 0
  two : ∀ x ∈ c.cm, x ∉ c.ab
  pos : ∀ x, x ∈ c.cm ∨ x ∈ c.ab → 1 ≤ x
  new : 0 < c.ph → c.id ∉ c.cm ∧ c.id ∉ c.ab
  opn : 0 < c.ph → ∃ i, i < c.ans.length ∧ c.ans[i]? = some false
  some_ : 1 ≤ c.ans.length
/-- One that has run, or is decided, stays so; one that runs is known. -/
def Goes (c c' : Co) : Prop := (∀ x, stC c x = 2 → stC c' x = 2) ∧ (∀ x, stC c x = 3 → stC c' x = 3) ∧ (∀ x, stC c x ≠ 0 → stC c' x ≠ 0) ∧ c'.ans.length = c.ans.length
theorem Goes.refl (c : Co) : Goes c c := ⟨fun _ h => h, fun _ h => h, fun _ h => h, rfl⟩
theorem opn_all {n : Nat} (h : 1 ≤ n) : ∃ i, i < (List.replicate n false).length ∧ (List.replicate n false)[i]? = some false := ⟨0, by simp; omega, by rw [List.getElem?_replicate, if_pos (by omega)]⟩
theorem co0_ok {n : Nat} (h : 1 ≤ n) : CoOk (co0 n) :=
  ⟨⟨Int.le_refl 0, (by simp [co0])⟩, fun e => absurd e (Int.lt_irrefl 0), fun _ => rfl, (fun x hx => by cases hx), (fun x hx => by rcases hx with hx | hx <;> cases hx), fun e => absurd e (Int.lt_irrefl 0), fun e => absurd e (Int.lt_irrefl 0), by simp [co0]; exact h⟩
theorem stC_cases (c : Co) (x : Int) : stC c x = 0 ∨ stC c x = 1 ∨ stC c x = 2 ∨ stC c x = 3 := by
  unfold stC; split
  · omega
  · split
    · omega
    · split <;> omega
theorem st2 {c : Co} {x : Int} : stC c x = 2 ↔ x ∈ c.cm ∨ (c.ph = 3 ∧ x = c.id) := by
  unfold stC; split
  · rename_i h; exact ⟨fun _ => h, fun _ => rfl⟩
  · rename_i h
    refine ⟨fun e => ?_, fun e => absurd e h⟩
    split at e
    · cases e
    · split at e <;> cases e
theorem st3 {c : Co} (hc : CoOk c) {x : Int} : stC c x = 3 ↔ x ∈ c.ab ∨ (c.ph = 4 ∧ x = c.id) := by
  unfold stC; split
  · rename_i h
    refine ⟨fun e => (by cases e), fun e => ?_⟩
    exfalso
    rcases h with h | h <;> rcases e with e | e
    · exact hc.two x h e
    · exact (hc.new (by omega)).1 (e.2 ▸ h)
    · exact (hc.new (by omega)).2 (h.2 ▸ e)
    · omega
  · split
    · rename_i h; exact ⟨fun _ => h, fun _ => rfl⟩
    · rename_i h
      refine ⟨fun e => ?_, fun e => absurd e h⟩
      split at e <;> cases e
theorem st0 {c : Co} {x : Int} : stC c x ≠ 0 ↔ x ∈ c.cm ∨ x ∈ c.ab ∨ (0 < c.ph ∧ x = c.id) := by
  unfold stC; split
  · rename_i h
    refine ⟨fun _ => h.elim .inl (fun h => .inr (.inr ⟨by omega, h.2⟩)), fun _ => by decide⟩
  · rename_i h1
    split
    · rename_i h
      refine ⟨fun _ => h.elim (fun h => .inr (.inl h)) (fun h => .inr (.inr ⟨by omega, h.2⟩)), fun _ => by decide⟩
    · rename_i h2
      split
      · rename_i h; exact ⟨fun _ => .inr (.inr h), fun _ => by decide⟩
      · rename_i h
        refine ⟨fun e => absurd rfl e, fun e => ?_⟩
        rcases e with e | e | e
        · exact absurd (.inl e) h1
        · exact absurd (.inl e) h2
        · exact absurd e h
end Bar
end Go.Proofs.Ytpjbeodnalgkfaa
