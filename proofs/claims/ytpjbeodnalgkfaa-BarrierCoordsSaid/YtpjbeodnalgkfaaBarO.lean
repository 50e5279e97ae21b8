/- Layer 17: the mathematics: what stands (BarrierStands), and that fair rounds end (BarrierEnds). Nothing of the program is named here. -/
import Derived.Test.YtpjbeodnalgkfaaBarN
set_option linter.all false
namespace Go.Proofs.Ytpjbeodnalgkfaa
namespace Bar
theorem goes_hear {c : Co} (h : CoOk c) (a k x : Int) : CoOk (hearS c a k x) ∧ Goes c (hearS c a k x) := by
  have hph := h.ph
  rcases hear_cases h a k x with e | ⟨-, -, hp0, -, hc⟩
  · rw [e]; exact ⟨h, Goes.refl c⟩
  · rcases hc with ⟨hp, -, e⟩ | ⟨-, -, e⟩ | ⟨-, ho, e⟩
    · rw [e]; exact ⟨turn_ok h (by omega) hp0, turn_goes h (by omega) hp0 (by omega) (by omega)⟩
    · rw [e]
      unfold goOn
      split
      · exact ⟨turn_ok h (by omega) hp0, turn_goes h (by omega) hp0 (by omega) (by omega)⟩
      · exact ⟨ends_ok h hp0, ends_goes h (by omega)⟩
    · rw [e]; exact ⟨set_ok h ho, set_goes a⟩
theorem abE_ph {c : Co} (h : abE c = 0) : c.ph = 1 ∨ c.ph = 2 := by
  unfold abE at h
  by_cases q : c.ph = 1 ∨ c.ph = 2
  · exact q
  · rw [if_neg q] at h; cases h
theorem goes_ab {c : Co} (h : CoOk c) : Goes c (abS c) := by
  unfold abS
  split
  · rename_i e; have := abE_ph e
    exact turn_goes h (by omega) (by omega) (by omega) (by omega)
  · exact Goes.refl c
theorem goes_cr {c : Co} (h : CoOk c) : Goes c (crS c) := by
  have hph := h.ph
  unfold crS
  split
  · rename_i e; have := abE_ph e
    exact turn_goes h (by omega) (by omega) (by omega) (by omega)
  · by_cases h0 : c.ph = 0
    · rw [h0]; exact turn0_goes h h0
    · exact turn_goes h (by omega) (by omega) (fun e => e) (fun e => e)
theorem goes_beg {c : Co} (h : CoOk c) (x : Int) : Goes c (begS c x) := by
  unfold begS
  split
  · rename_i e; exact (beg_ok h e).2.1
  · exact Goes.refl c
/-- BarrierStands: one that runs is the one that runs. -/
theorem st1 {c : Co} {x : Int} (h : stC c x = 1) : 0 < c.ph ∧ x = c.id := by
  unfold stC at h
  split at h
  · cases h
  · split at h
    · cases h
    · split at h
      · assumption
      · cases h
/-! ### fair rounds -/
def fone (W : Wd) (o : Odr) : Wd := { wAg W o.a.toNat (ordS (W.g.getD o.a.toNat ag0) o.k o.id) with c := hearS W.c o.a (ordK (W.g.getD o.a.toNat ag0) o.k o.id) o.id }
def fround (W : Wd) : Wd := (stepL W.c).foldl fone W
theorem fone_len (W : Wd) (o : Odr) : (fone W o).g.length = W.g.length := by simp [fone, wAg]
theorem inv_fone {W : Wd} (h : Inv W) {o : Odr} (ho : OsOk W.c o) {i : Nat} (hi : o.a = (i : Int)) (hlt : i < W.g.length) : Inv (fone W o) := by
  obtain ⟨h1, h2⟩ := inv_ord h (getD_some (d := ag0) hlt) ho
  have h3 := inv_hear h1 h2
  unfold fone
  rw [hi, Int.toNat_natCast]
  exact h3
theorem os_goes {c c' : Co} (h : Goes c c') {o : Odr} (ho : OsOk c o) : OsOk c' o := ⟨ho.1, fun e => h.1 _ (ho.2.1 e), fun e => h.2.1 _ (ho.2.2 e)⟩
theorem inv_fold : ∀ (l : List Odr) {W : Wd}, Inv W → (∀ o ∈ l, OsOk W.c o ∧ ∃ i : Nat, o.a = (i : Int) ∧ i < W.g.length) → Inv (l.foldl fone W) ∧ (l.foldl fone W).g.length = W.g.length ∧ (l.foldl fone W).ids = W.ids
  | [], W, h, _ => ⟨h, rfl, rfl⟩
  | o :: l, W, h, ho => by
    obtain ⟨h1, i, h2, h3⟩ := ho o List.mem_cons_self
    have hg := (goes_hear h.co o.a (ordK (W.g.getD o.a.toNat ag0) o.k o.id) o.id).2
    obtain ⟨r1, r2, r3⟩ := inv_fold l (inv_fone h h1 h2 h3) (fun x hx => by
      obtain ⟨q1, j, q2, q3⟩ := ho x (List.mem_cons_of_mem _ hx)
      exact ⟨os_goes hg q1, j, q2, by rw [fone_len]; exact q3⟩)
    exact ⟨r1, by rw [List.foldl_cons, r2, fone_len], by rw [List.foldl_cons, r3]; rfl⟩
theorem inv_round {W : Wd} (h : Inv W) : Inv (fround W) ∧ (fround W).g.length = W.g.length ∧ (fround W).ids = W.ids :=
  inv_fold _ h (fun o ho => by
    obtain ⟨h1, i, h2, h3, _⟩ := step_os h o ho
    exact ⟨h1, i, h2, h3⟩)
theorem kind12 {a : Ag} {k x : Int} (hx : 1 ≤ x) (hk : k = 1 ∨ k = 2) : ordK a k x = 14 ∨ ordK a k x = k + 10 := by
  unfold ordK
  rw [if_neg (by omega)]
  rcases hk with rfl | rfl
  · rw [if_pos rfl]; split <;> simp
  · rw [if_neg (by decide), if_pos rfl]; split <;> simp
/-- Decided to abort: what is left of the round does nothing. -/
theorem stay4 : ∀ (l : List Odr) (W : Wd), W.c.ph = 4 → (∀ o ∈ l, 1 ≤ o.id ∧ (o.k = 1 ∨ o.k = 2)) → (l.foldl fone W).c = W.c
  | [], W, _, _ => rfl
  | o :: l, W, h, ho => by
    obtain ⟨h1, h2⟩ := ho o List.mem_cons_self
    have hk := kind12 (a := W.g.getD o.a.toNat ag0) h1 h2
    have hc : (fone W o).c = W.c := by
      show hearS W.c o.a (ordK (W.g.getD o.a.toNat ag0) o.k o.id) o.id = W.c
      unfold hearS
      by_cases q : hearE W.c o.a (ordK (W.g.getD o.a.toNat ag0) o.k o.id) o.id ≠ 0
      · rw [if_pos q]
      · rw [if_neg q, if_neg (by omega), if_pos]
        unfold wantC
        rw [if_pos (by omega)]
        omega
    rw [List.foldl_cons, stay4 l (fone W o) (by rw [hc]; exact h) (fun x hx => ho x (List.mem_cons_of_mem _ hx)), hc]
theorem hear_ok {c : Co} (h : CoOk c) {i : Nat} (hi : i < c.ans.length) (h0 : 0 < c.ph) {k : Int} (hk : 11 ≤ k ∧ k ≤ 14) : hearE c i k c.id = 0 := by
  unfold hearE
  rw [if_neg (by omega), if_neg (by omega)]
theorem round_ {p x : Int} : ∀ (is : List Nat) {W : Wd}, Inv W → W.c.ph = p → 0 < p → W.c.id = x → (∀ i : Nat, W.c.ans[i]? = some false ↔ i ∈ is) → is.Nodup → is ≠ [] →
    (p < 3 ∧ (((is.map fun (i : Nat) => (⟨(i : Int), p, x⟩ : Odr)).foldl fone W).c.ph = p + 1 ∨ ((is.map fun (i : Nat) => (⟨(i : Int), p, x⟩ : Odr)).foldl fone W).c.ph = 4)) ∨ (3 ≤ p ∧ ((is.map fun (i : Nat) => (⟨(i : Int), p, x⟩ : Odr)).foldl fone W).c.ph = 0)
  | [], W, _, _, _, _, _, _, hne => absurd rfl hne
  | i :: is, W, h, hp, h0, hx, hf, hn, _ => by
    have hph := h.co.ph
    have hfi : W.c.ans[i]? = some false := (hf i).2 List.mem_cons_self
    have hil : i < W.c.ans.length := (List.getElem?_eq_some_iff.1 hfi).1
    have hig : i < W.g.length := by rw [← h.n]; exact hil
    have hx1 : 1 ≤ x := by rw [← hx]; exact h.co.id1 (by omega)
    obtain ⟨a, ha⟩ : ∃ a, W.g.getD i ag0 = a := ⟨_, rfl⟩
    have hga : a ∈ W.g := by rw [← ha]; exact List.mem_of_getElem? (getD_some hig)
    rw [List.nodup_cons] at hn
    have hO : OsOk W.c ⟨(i : Int), p, x⟩ := ⟨hx1, fun e => st2.2 (.inr ⟨hp.trans e, hx.symm⟩), fun e => (st3 h.co).2 (.inr ⟨hp.trans e, hx.symm⟩)⟩
    have hI := inv_fone h hO (i := i) rfl hig
    have hc : (fone W ⟨(i : Int), p, x⟩).c = hearS W.c i (ordK a p x) x := by
      show hearS W.c (i : Int) (ordK (W.g.getD (i : Int).toNat ag0) p x) x = _
      rw [Int.toNat_natCast, ha]
    -- the answer
    have hK : (p < 3 ∧ ordK a p x = 14) ∨ ordK a p x = wantC W.c := by
      unfold wantC
      rw [hp]
      by_cases h3 : 3 ≤ p
      · right
        rw [if_pos h3]
        unfold ordK
        rw [if_neg (by omega), if_neg (by omega), if_neg (by omega)]
        by_cases e3 : p = 3
        · rw [if_pos e3, if_pos ((h.all x (hO.2.1 e3) a hga).symm)]
        · have e4 : p = 4 := by omega
          rw [if_neg e3, if_pos e4, if_neg]
          intro hm
          have q1 := h.cmt a hga x hm
          have q2 : stC W.c x = 3 := hO.2.2 e4
          omega
      · rw [if_neg h3]
        rcases kind12 (a := a) hx1 (show p = 1 ∨ p = 2 by omega) with e | e
        · exact .inl ⟨by omega, e⟩
        · exact .inr e
    rw [List.map_cons, List.foldl_cons]
    have hok : ∀ k, 11 ≤ k ∧ k ≤ 14 → hearE W.c i k x = 0 := fun k hk => by rw [← hx]; exact hear_ok h.co hil (by omega) hk
    rcases hK with ⟨h3, e⟩ | e
    · have hc2 : (fone W ⟨(i : Int), p, x⟩).c = turnC W.c 4 := by
        rw [hc, e]
        unfold hearS
        rw [if_neg (by rw [hok 14 (by omega)]; decide), if_pos ⟨by omega, rfl⟩]
      refine .inl ⟨h3, .inr ?_⟩
      rw [stay4 _ _ (by rw [hc2]; rfl) (fun o ho => by
        obtain ⟨j, _, rfl⟩ := List.mem_map.1 ho
        exact ⟨hx1, show p = 1 ∨ p = 2 by omega⟩), hc2]
      rfl
    · have hw : 11 ≤ wantC W.c ∧ wantC W.c ≤ 13 := by unfold wantC; split <;> omega
      rcases hear_cases h.co (i : Int) (ordK a p x) x with q | ⟨-, -, -, -, q⟩
      · -- it is heard
        exfalso
        have hs : hearS W.c i (ordK a p x) x = goOn W.c ∨ hearS W.c i (ordK a p x) x = setC W.c i := by
          unfold hearS
          rw [if_neg (by rw [e, hok _ (by omega)]; decide), if_neg (by omega), if_neg (by rw [e]; simp)]
          split
          · rw [go_set]; exact .inl rfl
          · exact .inr rfl
        rw [q] at hs
        rcases hs with hs | hs
        · have q2 := congrArg (fun c => c.ans[i]?) hs
          have q3 := congrArg Co.ph hs
          unfold goOn at q3
          split at q3
          · have : W.c.ph = W.c.ph + 1 := q3
            omega
          · have : W.c.ph = 0 := by rw [q3]; unfold endsC; split <;> rfl
            omega
        · have q2 := congrArg (fun c => c.ans[i]?) hs
          simp only [setC, Int.toNat_natCast] at q2
          rw [hfi, List.getElem?_set_self hil] at q2
          injection q2 with q2
          cases q2
      · rcases q with ⟨h3, e14, -⟩ | ⟨-, hall, q⟩ | ⟨-, -, q⟩
        · omega
        · have his : is = [] := by
            cases is with
            | nil => rfl
            | cons j js =>
              exfalso
              have hj := (hf j).2 (by simp)
              have hjl := (List.getElem?_eq_some_iff.1 hj).1
              have q2 := hall j hjl
              rw [Int.toNat_natCast, List.getElem?_set_ne (fun e => hn.1 (by rw [e]; simp)), hj] at q2
              injection q2 with q2
              cases q2
          subst his
          show (p < 3 ∧ ((fone W ⟨(i : Int), p, x⟩).c.ph = p + 1 ∨ _)) ∨ (3 ≤ p ∧ (fone W ⟨(i : Int), p, x⟩).c.ph = 0)
          rw [hc, q]
          unfold goOn
          by_cases h3 : p < 3
          · left
            rw [hp, if_pos h3]
            exact ⟨h3, .inl rfl⟩
          · right
            rw [hp, if_neg h3]
            refine ⟨by omega, ?_⟩
            unfold endsC; split <;> rfl
        · have hc2 : (fone W ⟨(i : Int), p, x⟩).c = setC W.c i := by rw [hc, q]
          refine round_ is hI (by rw [hc2]; exact hp) h0 (by rw [hc2]; exact hx) (fun j => ?_) hn.2 ?_
          · rw [hc2]
            simp only [setC, Int.toNat_natCast]
            by_cases e : i = j
            · subst e
              rw [List.getElem?_set_self hil]
              exact ⟨fun q => (by injection q with q; cases q), fun q => absurd q hn.1⟩
            · rw [List.getElem?_set_ne e, hf j]
              exact ⟨fun q => (List.mem_cons.1 q).resolve_left (fun q => e q.symm), fun q => List.mem_cons_of_mem _ q⟩
          · intro his
            subst his
            obtain ⟨j, hj, ej⟩ := hI.co.opn (by rw [hc2]; show 0 < W.c.ph; omega)
            rw [hc2] at ej
            simp only [setC, Int.toNat_natCast] at ej
            by_cases e : i = j
            · subst e
              rw [List.getElem?_set_self hil] at ej
              injection ej with ej
              cases ej
            · rw [List.getElem?_set_ne e, hf j] at ej
              exact e (List.mem_singleton.1 ej).symm
/-- How many rounds are left at most. -/
def left (c : Co) : Nat := if c.ph = 0 then 0 else if c.ph = 1 then 3 else if c.ph = 2 then 2 else 1
theorem left_round {W : Wd} (h : Inv W) : left (fround W).c ≤ left W.c - 1 := by
  have hph := h.co.ph
  by_cases h0 : W.c.ph = 0
  · have : fround W = W := by
      unfold fround stepL
      rw [if_neg (by omega)]
      rfl
    rw [this]
    unfold left
    rw [if_pos h0]
    exact Nat.le_refl _
  · have hs : fround W = (((List.range W.c.ans.length).filter fun i => !(W.c.ans.getD i true)).map fun (i : Nat) => (⟨(i : Int), W.c.ph, W.c.id⟩ : Odr)).foldl fone W := by
      unfold fround stepL
      rw [if_pos (by omega)]
    have hf : ∀ i : Nat, W.c.ans[i]? = some false ↔ i ∈ (List.range W.c.ans.length).filter fun i => !(W.c.ans.getD i true) := fun i => by
      rw [List.mem_filter, List.mem_range]
      constructor
      · intro e
        refine ⟨(List.getElem?_eq_some_iff.1 e).1, ?_⟩
        rw [List.getD, e]; rfl
      · rintro ⟨hi, e⟩
        rw [List.getElem?_eq_getElem hi]
        rw [List.getD, List.getElem?_eq_getElem hi] at e
        simpa using e
    have hne : ((List.range W.c.ans.length).filter fun i => !(W.c.ans.getD i true)) ≠ [] := by
      obtain ⟨i, hi, e⟩ := h.co.opn (by omega)
      exact List.ne_nil_of_mem ((hf i).1 e)
    have hr := round_ _ h rfl (by omega) rfl hf (List.Nodup.sublist List.filter_sublist List.nodup_range) hne
    rw [← hs] at hr
    unfold left
    rcases hr with ⟨h3, q | q⟩ | ⟨h3, q⟩
    · rw [if_neg h0]
      by_cases h1 : W.c.ph = 1
      · rw [q, h1]; decide
      · have h2 : W.c.ph = 2 := by omega
        rw [q, h2]; decide
    · rw [q, if_neg h0]
      by_cases h1 : W.c.ph = 1
      · rw [h1]; decide
      · have h2 : W.c.ph = 2 := by omega
        rw [h2]; decide
    · rw [q]; simp
def frounds : Nat → Wd → Wd
  | 0, W => W
  | n + 1, W => frounds n (fround W)
theorem frounds_succ : ∀ (n : Nat) (W : Wd), frounds (n + 1) W = fround (frounds n W)
  | 0, W => rfl
  | n + 1, W => by rw [frounds, frounds_succ n (fround W)]; rfl
theorem inv_rounds {W : Wd} (h : Inv W) : ∀ n, Inv (frounds n W) ∧ (frounds n W).g.length = W.g.length ∧ (frounds n W).ids = W.ids ∧ left (frounds n W).c ≤ 3 - n
  | 0 => ⟨h, rfl, rfl, by unfold left frounds; split <;> (try split) <;> (try split) <;> omega⟩
  | n + 1 => by
    obtain ⟨h1, h2, h3, h4⟩ := inv_rounds h n
    obtain ⟨r1, r2, r3⟩ := inv_round h1
    have r4 := left_round h1
    rw [frounds_succ]
    exact ⟨r1, r2.trans h2, r3.trans h3, by omega⟩
/-- BarrierEnds. -/
theorem ends_all {W : Wd} (h : Inv W) (hl : left W.c = 0) : W.c.ph = 0 ∧ W.c.id = 0 ∧ ∀ a ∈ W.g, ∀ x, x ∈ a.cm ↔ stC W.c x = 2 := by
  have h0 : W.c.ph = 0 := by
    have hph := h.co.ph
    unfold left at hl
    by_cases q : W.c.ph = 0
    · exact q
    · rw [if_neg q] at hl
      split at hl
      · cases hl
      · split at hl <;> cases hl
  refine ⟨h0, h.co.id0 h0, fun a ha x => ⟨fun hx => h.cmt a ha x hx, fun hx => ?_⟩⟩
  rcases st2.1 hx with q | q
  · exact h.fin x q a ha
  · omega
end Bar
end Go.Proofs.Ytpjbeodnalgkfaa
