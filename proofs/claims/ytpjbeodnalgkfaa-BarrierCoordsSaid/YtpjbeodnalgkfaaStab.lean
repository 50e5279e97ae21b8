/- Regions that draw their order, whose operations make memory or call what makes memory, and write none that was there: each operation is looked at once, in whatever world it comes. Nothing of the program is named here. -/
import Derived.Test.YtpjbeodnalgkfaaKit
import Derived.Orders
import Derived.StillTail
set_option linter.all false
namespace Go.Proofs.Ytpjbeodnalgkfaa
open Go.RowKit

/-- What an operation gives: a value and a world. -/
def Gives (P : Program) (o : Oper) (a : Act) (W : World) (K : Value → World → Prop) : Prop :=
  match (execOp a.eval o).run P W with
  | .ok (.value v) W' => K v W'
  | .ok (.enter f args) W' => Calls P f args W' fun e W'' => ∃ v, e = .returned v ∧ K v W''
  | _ => False

theorem Gives.wp {P : Program} {o : Oper} {a : Act} {W : World} {K : Value → World → Prop} {Q : Exit → Act → World → Prop} {next : Act → World → Prop}
    (h : Gives P o a W K) (hn : ∀ v W', K v W' → next (a.put o.dst v) W') : o.wp P a W next Q := by
  unfold Gives at h
  unfold Oper.wp
  generalize (execOp a.eval o).run P W = r at *
  cases r with
  | ok n W' =>
    cases n with
    | value v => exact hn _ _ h
    | enter f args =>
      refine Calls.mono h fun e W'' he => ?_
      obtain ⟨v, rfl, hk⟩ := he
      exact hn _ _ hk
    | _ => exact h.elim
  | halt x W' => exact h.elim

/-- Which operation writes slot t. -/
def dstAt (ops : Array Oper) (j : Nat) : Option Tmp := (ops[j]?).bind (·.dst)
def onB (ops : Array Oper) (i j : Nat) : Bool := ((ops[i]?).map fun o => o.after.toList.any fun e => Region.binds .any e && e.on == j).getD false
def writerOf (ops : Array Oper) (t : Tmp) : Option Nat := (List.range ops.size).find? fun j => dstAt ops j == some t
/-- The check: each operation has a slot of its own; what it looks at is written by one that is bound to come ahead, or by one that is bound to come behind. -/
def stableB (ops : Array Oper) : Bool :=
  Region.noSelect ops &&
  (List.range ops.size).all fun i =>
    match ops[i]? with
    | none => true
    | some o => o.dst.isSome && (writerOf ops (o.dst.getD 0) == some i) && (o.after.all fun e => !Region.binds .any e || decide (e.on < i)) &&
      (o.looksAt ops).all fun t => (List.range ops.size).all fun j => dstAt ops j != some t || onB ops i j || (onB ops j i && j != i)

/-- What operation i finds at slot t: what the operation that is bound ahead of it has laid there, or what was there. -/
def FindsAt (ops : Array Oper) (V : Nat → World → Value → Prop) (a0 : Act) (i : Nat) (W : World) (a : Act) (t : Tmp) : Prop :=
  match (writerOf ops t).filter (onB ops i ·) with
  | some j => V j W (a.tmps.getD t undef)
  | none => a.tmps.getD t undef = a0.tmps.getD t undef
def FindsAll (ops : Array Oper) (V : Nat → World → Value → Prop) (a0 : Act) (i : Nat) (W : World) (a : Act) : List Tmp → Prop → Prop
  | [], G => G
  | t :: ts, G => FindsAt ops V a0 i W a t → FindsAll ops V a0 i W a ts G
def WantedAt (ops : Array Oper) (o : Oper) (a : Act) : Prop :=
  match o.guard with
  | none => True
  | some (g, b) => (dstAt ops g).map (fun t => a.tmps.getD t undef) = some (.bool b)
def OblAt (P : Program) (ops : Array Oper) (R : World → Prop) (V : Nat → World → Value → Prop) (a0 : Act) (i : Nat) (o : Oper) : Prop :=
  ∀ (W : World) (a : Act), R W → a.tmps.size = a0.tmps.size → FindsAll ops V a0 i W a (o.looksAt ops)
    ((WantedAt ops o a → Gives P o a W fun v W' => R W' ∧ V i W' v ∧ ∀ j u, V j W u → V j W' u) ∧ (¬ WantedAt ops o a → V i W undef))
def OblAll (P : Program) (ops : Array Oper) (R : World → Prop) (V : Nat → World → Value → Prop) (a0 : Act) : List Oper → Nat → Prop
  | [], _ => True
  | o :: os, i => OblAt P ops R V a0 i o ∧ OblAll P ops R V a0 os (i + 1)

theorem findsAll_of {ops : Array Oper} {V : Nat → World → Value → Prop} {a0 : Act} {i : Nat} {W : World} {a : Act} {G : Prop} :
    ∀ {ts : List Tmp}, FindsAll ops V a0 i W a ts G → (∀ t ∈ ts, FindsAt ops V a0 i W a t) → G
  | [], h, _ => h
  | t :: _, h, hf => findsAll_of (h (hf t List.mem_cons_self)) fun s hs => hf s (List.mem_cons_of_mem _ hs)
theorem oblAll_at {P : Program} {ops : Array Oper} {R : World → Prop} {V : Nat → World → Value → Prop} {a0 : Act} :
    ∀ {os : List Oper} {k : Nat}, OblAll P ops R V a0 os k → ∀ {i : Nat} {o : Oper}, os[i]? = some o → OblAt P ops R V a0 (k + i) o
  | [], _, _, i, o, h => by simp at h
  | _ :: os, k, ⟨h, hs⟩, 0, o, ho => by simp at ho; subst ho; exact h
  | _ :: os, k, ⟨h, hs⟩, i + 1, o, ho => by
    have := oblAll_at hs (i := i) (o := o) (by simpa using ho)
    rwa [show k + 1 + i = k + (i + 1) by omega] at this

/-- What holds on the way. -/
structure StInv (ops : Array Oper) (R : World → Prop) (V : Nat → World → Value → Prop) (a0 : Act) (listed : Array Bool) (a : Act) (W : World) : Prop where
  r : R W
  defers : a.defers = a0.defers
  size : a.tmps.size = a0.tmps.size
  old : ∀ t, (∀ j, listed.getD j false = true → dstAt ops j ≠ some t) → a.tmps.getD t undef = a0.tmps.getD t undef
  new : ∀ j t, listed.getD j false = true → dstAt ops j = some t → V j W (a.tmps.getD t undef)

theorem find_writer {ops : Array Oper} {j : Nat} {t : Tmp} (hd : dstAt ops j = some t) (hB : stableB ops = true) : writerOf ops t = some j := by
  unfold stableB at hB
  rw [Bool.and_eq_true, List.all_eq_true] at hB
  have hj : j < ops.size := by
    rcases Nat.lt_or_ge j ops.size with h | h
    · exact h
    · simp [dstAt, Array.getElem?_eq_none h] at hd
  have h := hB.2 j (List.mem_range.2 hj)
  obtain ⟨o, ho⟩ : ∃ o, ops[j]? = some o := ⟨ops[j], Array.getElem?_eq_getElem hj⟩
  simp only [ho, Bool.and_eq_true, beq_iff_eq] at h
  have ht : o.dst = some t := by simpa [dstAt, ho] using hd
  simpa [ht] using h.1.1.2

theorem getD_put {a : Act} {d t : Tmp} {v : Value} (hd : d < a.tmps.size) : (a.put (some d) v).tmps.getD t undef = if t = d then v else a.tmps.getD t undef := by
  simp only [Act.put, Array.getD_eq_getD_getElem?]
  by_cases h : t = d
  · subst h; simp [hd]
  · rw [if_neg h, Array.getElem?_setIfInBounds_ne (Ne.symm h)]

theorem filter_less {p p' : Nat → Bool} {i : Nat} : ∀ {l : List Nat}, i ∈ l → p i = true → (∀ j, p' j = true → p j = true) → p' i = false → (l.filter p').length < (l.filter p).length
  | x :: l, hi, hp, hpp, hn => by
    have le : ∀ l : List Nat, (l.filter p').length ≤ (l.filter p).length := by
      intro l
      induction l with
      | nil => simp
      | cons y l ih =>
        simp only [List.filter_cons]
        by_cases h1 : p' y = true
        · simp [h1, hpp y h1, ih]
        · by_cases h2 : p y = true
          · simp [h1, h2]; omega
          · simp [h1, h2, ih]
    rcases List.mem_cons.1 hi with rfl | h
    · simp only [List.filter_cons, hp, hn, if_true]
      have := le l
      simp; omega
    · have ih := filter_less h hp hpp hn
      simp only [List.filter_cons]
      by_cases h1 : p' x = true
      · simp [h1, hpp x h1, ih]
      · by_cases h2 : p x = true
        · simp [h1, h2]; omega
        · simp [h1, h2, ih]

/-- What is listed has all listed that it was bound behind. -/
def DownClosed (ops : Array Oper) (listed : Array Bool) : Prop := ∀ j i, listed.getD j false = true → onB ops j i = true → listed.getD i false = true

theorem wp_region_stable {P : Program} {id : Nat} {ops : Array Oper} {Q : Exit → Act → World → Prop} {a0 : Act} {w : World} (hm : P.follows .mixedOrders = true) (hB : stableB ops = true)
    (hsz : (List.range ops.size).all (fun j => decide ((dstAt ops j).getD 0 < a0.tmps.size)) = true)
    (R : World → Prop) (V : Nat → World → Value → Prop) (hR : R w.drew) (hobl : OblAll P ops R V a0 ops.toList 0)
    (hend : ∀ (a : Act) (W : World), R W → a.defers = a0.defers → a.tmps.size = a0.tmps.size →
      (∀ t, match writerOf ops t with | some j => V j W (a.tmps.getD t undef) | none => a.tmps.getD t undef = a0.tmps.getD t undef) → Q .normal a W) :
    (Code.region id ops true).wp P Q a0 w := by
  refine wp_region_any hm ?_
  have hsz' : ∀ j t, dstAt ops j = some t → t < a0.tmps.size := fun j t hd => by
    have hj : j < ops.size := by
      rcases Nat.lt_or_ge j ops.size with h | h
      · exact h
      · simp [dstAt, Array.getElem?_eq_none h] at hd
    have := List.all_eq_true.1 hsz j (List.mem_range.2 hj)
    simpa [hd] using this
  -- at the end of all ways all operations are listed
  have fin : ∀ (listed : Array Bool) (a : Act) (W : World), listed.size = ops.size → StInv ops R V a0 listed a W → (∀ j, j < ops.size → listed.getD j false = true) → Q .normal a W := by
    intro listed a W hls inv hall
    refine hend a W inv.r inv.defers inv.size fun t => ?_
    cases hw : writerOf ops t with
    | some j =>
      have hj := List.find?_some hw
      have hjm := List.mem_range.1 (List.mem_of_find?_eq_some hw)
      exact inv.new j t (hall j hjm) (by simpa using hj)
    | none =>
      refine inv.old t fun j hj hd => ?_
      rw [find_writer hd hB] at hw
      cases hw
  have hBi : ∀ i o, ops[i]? = some o → (∃ d, o.dst = some d) ∧ (∀ e ∈ o.after, Region.binds .any e = true → e.on < i) ∧
      ∀ t ∈ o.looksAt ops, ∀ j, j < ops.size → dstAt ops j = some t → onB ops i j = true ∨ (onB ops j i = true ∧ j ≠ i) := by
    intro i o ho
    have hi : i < ops.size := (Array.getElem?_eq_some_iff.1 ho).1
    have h := hB
    unfold stableB at h
    rw [Bool.and_eq_true, List.all_eq_true] at h
    have h := h.2 i (List.mem_range.2 hi)
    simp only [ho, Bool.and_eq_true, List.all_eq_true, Array.all_eq_true_iff_forall_mem, Bool.or_eq_true, Bool.not_eq_true', decide_eq_true_eq, bne_iff_ne, ne_eq, List.mem_range] at h
    obtain ⟨⟨⟨h1, h2⟩, h3⟩, h4⟩ := h
    refine ⟨Option.isSome_iff_exists.1 h1, fun e he hb => ?_, fun t ht j hj hd => ?_⟩
    · rcases h3 e he with h | h
      · rw [hb] at h; cases h
      · exact h
    · rcases h4 t ht j hj with (h | h) | h
      · exact absurd hd h
      · exact .inl h
      · exact .inr h
  have lst : ∀ (i j : Nat) (listed : Array Bool), onB ops i j = true → i ∈ Region.ready .any ops listed → listed.getD j false = true := by
    intro i j listed hon hr
    obtain ⟨_, o, ho, hall⟩ := mem_ready.1 hr
    simp only [onB, ho, Option.map_some, Option.getD_some, List.any_eq_true, Array.mem_toList_iff, Bool.and_eq_true, beq_iff_eq] at hon
    obtain ⟨e, he, hb, rfl⟩ := hon
    exact hall e he hb
  have before : ∀ (i j : Nat) (listed : Array Bool), onB ops j i = true → i ∈ Region.ready .any ops listed → True := fun _ _ _ _ _ => trivial
  clear before
  have step : ∀ (listed : Array Bool) (a : Act) (W : World) (i : Nat), listed.size = ops.size → StInv ops R V a0 listed a W → DownClosed ops listed → i ∈ Region.ready .any ops listed →
      ∀ K : Act → World → Prop, (∀ a' W', StInv ops R V a0 (listed.setIfInBounds i true) a' W' → K a' W') → wpOp P ops Q i K a W := by
    intro listed a W i hls inv hdc hr K hK
    obtain ⟨h0, o, ho, hall⟩ := mem_ready.1 hr
    have hi : i < ops.size := (Array.getElem?_eq_some_iff.1 ho).1
    obtain ⟨⟨d, hd⟩, _, hlook⟩ := hBi i o ho
    have hdi : dstAt ops i = some d := by simp [dstAt, ho, hd]
    have hds : d < a.tmps.size := by rw [inv.size]; exact hsz' i d hdi
    have hu : listed.getD i false = false := getD_both h0
    have finds : ∀ t ∈ o.looksAt ops, FindsAt ops V a0 i W a t := by
      intro t ht
      unfold FindsAt
      cases hw : writerOf ops t with
      | none =>
        simp only [Option.filter_none]
        exact inv.old t fun j hj hdj => by rw [find_writer hdj hB] at hw; cases hw
      | some j =>
        have hjt : dstAt ops j = some t := by have := List.find?_some hw; simpa using this
        have hjm := List.mem_range.1 (List.mem_of_find?_eq_some hw)
        by_cases hon : onB ops i j = true
        · simp only [Option.filter_some, hon, if_true]
          exact inv.new j t (lst i j listed hon hr) hjt
        · simp only [Option.filter_some, hon]
          refine inv.old t fun k hk hdk => ?_
          have hkj : k = j := by have := find_writer hdk hB; rw [hw] at this; exact (Option.some.inj this).symm
          subst hkj
          rcases hlook t ht k hjm hjt with h | ⟨h, hne⟩
          · exact hon h
          · have := hdc k i hk h
            rw [this] at hu; cases hu
    have hob := findsAll_of (oblAll_at hobl (i := i) (o := o) (by simpa using ho) W a inv.r inv.size) (by simpa using finds)
    simp only [Nat.zero_add] at hob
    have next : ∀ v W', R W' → V i W' v → (∀ j u, V j W u → V j W' u) → StInv ops R V a0 (listed.setIfInBounds i true) (a.put o.dst v) W' := by
      intro v W' hR' hv hst
      rw [hd]
      refine ⟨hR', inv.defers, by simpa [Act.put] using inv.size, fun t ht => ?_, fun j t hj hjt => ?_⟩
      · rw [getD_put hds]
        have htd : t ≠ d := fun e => ht i (by simp [hls, hi]) (by rw [hdi, e])
        rw [if_neg htd]
        exact inv.old t fun j hj => ht j (getD_set_true hj)
      · rw [getD_put hds]
        by_cases htd : t = d
        · subst htd
          rw [if_pos rfl]
          have : j = i := by
            have h1 := find_writer hjt hB
            rw [find_writer hdi hB] at h1
            exact (Option.some.inj h1).symm
          subst this
          exact hv
        · rw [if_neg htd]
          have hji : i ≠ j := fun e => by subst e; rw [hdi] at hjt; exact htd (Option.some.inj hjt).symm
          rw [getD_set_ne false hji] at hj
          exact hst j _ (inv.new j t hj hjt)
    have hwant : Region.wanted o (yielded ops a.tmps) = true ↔ WantedAt ops o a := by
      unfold Region.wanted WantedAt
      cases hg : o.guard with
      | none => simp
      | some gb =>
        obtain ⟨g, b⟩ := gb
        simp only [beq_iff_eq]
        unfold yielded dstAt
        cases hdg : (ops[g]?).bind (·.dst) with
        | none => simp
        | some t =>
          have htl := hsz' g t hdg
          simp only [Option.bind_some, Option.map_some, Option.some.injEq]
          rw [← inv.size] at htl
          rw [Array.getElem?_eq_getElem htl, Array.getD_eq_getD_getElem?, Array.getElem?_eq_getElem htl]
          simp only [Option.getD_some]
          generalize a.tmps[t] = x
          cases x <;> simp
    unfold wpOp
    simp only [ho]
    by_cases hwt : Region.wanted o (yielded ops a.tmps) = true
    · rw [if_pos hwt]
      exact .inl ((hob.1 (hwant.1 hwt)).wp fun v W' ⟨h1, h2, h3⟩ => hK _ _ (next v W' h1 h2 h3))
    · rw [if_neg hwt]
      exact hK _ _ (next undef W inv.r (hob.2 fun h => hwt (hwant.2 h)) fun _ _ h => h)
  -- all that are left are fewer at each step
  have run : ∀ (fuel : Nat) (listed : Array Bool) (a : Act) (W : World), listed.size = ops.size → StInv ops R V a0 listed a W → DownClosed ops listed →
      ((List.range ops.size).filter fun j => !listed.getD j false).length ≤ fuel → wpAny P .any ops Q fuel listed a W := by
    intro fuel
    induction fuel with
    | zero =>
      intro listed a W hls inv _ hf
      have hnil := List.eq_nil_of_length_eq_zero (Nat.le_zero.1 hf)
      have hall : ∀ j, j < ops.size → listed.getD j false = true := fun j hj => by
        have := List.filter_eq_nil_iff.1 hnil j (List.mem_range.2 hj)
        simpa using this
      refine ⟨?_, fin listed a W hls inv hall⟩
      refine List.eq_nil_iff_forall_not_mem.2 fun j hj => ?_
      obtain ⟨h0, o, ho, _⟩ := mem_ready.1 hj
      have := hall j (Array.getElem?_eq_some_iff.1 ho).1
      rw [getD_both h0] at this
      cases this
    | succ fuel ih =>
      intro listed a W hls inv hdc hf
      refine ⟨fun hr => fin listed a W hls inv fun j hj => ?_, fun i hi => ?_⟩
      · -- the first that is not listed would be ready
        have all : ∀ n, n ≤ ops.size → ∀ j, j < n → listed.getD j false = true := by
          intro n
          induction n with
          | zero => intro _ j hj; omega
          | succ n ihn =>
            intro hn j hj
            rcases Nat.lt_or_ge j n with h | h
            · exact ihn (by omega) j h
            · have hjn : j = n := by omega
              subst hjn
              cases hl : listed.getD j false with
              | true => rfl
              | false =>
                have hjs : j < ops.size := by omega
                have : j ∈ Region.ready .any ops listed := by
                  refine mem_ready.2 ⟨getD_in (by omega) hl, ops[j], Array.getElem?_eq_getElem hjs, fun e he hb => ?_⟩
                  exact ihn (by omega) _ ((hBi j _ (Array.getElem?_eq_getElem hjs)).2.1 e he hb)
                rw [hr] at this
                cases this
        exact all ops.size (Nat.le_refl _) j hj
      · obtain ⟨h0, o, ho, hall⟩ := mem_ready.1 hi
        have hio : i < ops.size := (Array.getElem?_eq_some_iff.1 ho).1
        refine step listed a W i hls inv hdc hi _ fun a' W' inv' => ih _ a' W' (by simpa using hls) inv' ?_ ?_
        · intro j k hj hjk
          by_cases hji : i = j
          · subst hji
            exact getD_set_true (lst i k listed hjk hi)
          · rw [getD_set_ne false hji] at hj
            exact getD_set_true (hdc j k hj hjk)
        · refine Nat.le_of_lt_succ (Nat.lt_of_lt_of_le ?_ hf)
          refine filter_less (List.mem_range.2 hio) ?_ (fun j hj => ?_) ?_
          · simp [getD_both h0]
          · cases hl : listed.getD j false with
            | false => rfl
            | true => rw [getD_set_true hl] at hj; cases hj
          · simp [hls, hio]
  refine run ops.size _ a0 w.drew (by simp) ⟨hR, rfl, rfl, fun _ _ => rfl, fun j t hj => ?_⟩ (fun j i hj => ?_) ?_
  · rw [getD_replicate_false] at hj; cases hj
  · rw [getD_replicate_false] at hj; cases hj
  · exact Nat.le_trans (List.length_filter_le _ _) (by simp)

/-- The obligation of one operation, where all that is made is new memory. -/
def MemAt (P : Program) (ops : Array Oper) (w : World) (V : Nat → World → Value → Prop) (a0 : Act) (i : Nat) (o : Oper) : Prop :=
  ∀ (W : World) (a : Act), Below w.heap.size w W → FindsAll ops V a0 i W a (o.looksAt ops)
    ((WantedAt ops o a → Gives P o a W fun v W' => Below W.heap.size W W' ∧ V i W' v) ∧ (¬ WantedAt ops o a → V i W undef))
def MemAll (P : Program) (ops : Array Oper) (w : World) (V : Nat → World → Value → Prop) (a0 : Act) : List Oper → Nat → Prop
  | [], _ => True
  | o :: os, i => MemAt P ops w V a0 i o ∧ MemAll P ops w V a0 os (i + 1)
theorem findsAll_mono {ops : Array Oper} {V : Nat → World → Value → Prop} {a0 : Act} {i : Nat} {W : World} {a : Act} {G G' : Prop} (h : G → G') :
    ∀ {ts : List Tmp}, FindsAll ops V a0 i W a ts G → FindsAll ops V a0 i W a ts G'
  | [], hg => h hg
  | _ :: _, hg => fun hf => findsAll_mono h (hg hf)
theorem Gives.mono {P : Program} {o : Oper} {a : Act} {W : World} {K K' : Value → World → Prop} (h : Gives P o a W K) (hk : ∀ v W', K v W' → K' v W') : Gives P o a W K' := by
  unfold Gives at *
  generalize (execOp a.eval o).run P W = r at *
  cases r with
  | ok n W' =>
    cases n with
    | value v => exact hk _ _ h
    | enter f args =>
      refine Calls.mono h fun e W'' he => ?_
      obtain ⟨v, rfl, hh⟩ := he
      exact ⟨v, rfl, hk _ _ hh⟩
    | _ => exact h.elim
  | halt x W' => exact h.elim
theorem oblAll_of {P : Program} {ops : Array Oper} {w : World} {V : Nat → World → Value → Prop} {a0 : Act} (hst : ∀ W W' j u, Below W.heap.size W W' → V j W u → V j W' u) :
    ∀ {os : List Oper} {i : Nat}, MemAll P ops w V a0 os i → OblAll P ops (Below w.heap.size w) V a0 os i
  | [], _, _ => trivial
  | _ :: _, _, ⟨h, hs⟩ => ⟨fun W a hR _ => findsAll_mono (fun hg => ⟨fun hw => (hg.1 hw).mono fun _ _ hv => ⟨below_step hR hv.1 (Nat.le_refl _), hv.2, fun _ _ hj => hst _ _ _ _ hv.1 hj⟩, hg.2⟩) (h W a hR), oblAll_of hst hs⟩

/-- A region that draws its order, and only makes memory: each operation once. -/
theorem wp_region_mem {P : Program} {id : Nat} {ops : Array Oper} {Q : Exit → Act → World → Prop} {a0 : Act} {w : World} (V : Nat → World → Value → Prop)
    (hm : P.follows .mixedOrders = true) (hB : stableB ops = true) (hsz : (List.range ops.size).all (fun j => decide ((dstAt ops j).getD 0 < a0.tmps.size)) = true)
    (hst : ∀ W W' j u, Below W.heap.size W W' → V j W u → V j W' u) (hobl : MemAll P ops w V a0 ops.toList 0)
    (hend : ∀ (a : Act) (W : World), Below w.heap.size w W → a.defers = a0.defers → a.tmps.size = a0.tmps.size →
      (∀ t, match writerOf ops t with | some j => V j W (a.tmps.getD t undef) | none => a.tmps.getD t undef = a0.tmps.getD t undef) → Q .normal a W) :
    (Code.region id ops true).wp P Q a0 w :=
  wp_region_stable hm hB hsz (Below w.heap.size w) V (Below.refl _ _).drew (oblAll_of hst hobl) hend

theorem get_of {a : Array Value} {t : Nat} {v : Value} (h : a.getD t undef = v) : a[t]?.getD undef = v := by
  rw [← Array.getD_eq_getD_getElem?]; exact h
end Go.Proofs.Ytpjbeodnalgkfaa
