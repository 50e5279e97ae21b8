/- Layer 12: what ShardDurable says: the invariant of what a block may be, and what holds it in memory. -/
import Derived.Test.YtfcfffilfmbpeaaShaR
set_option linter.all false
namespace Go.Proofs.Ytfcfffilfmbpeaa
open Go.ChangeShapes Go.WideShapes Go.ChangeAt Go.RowKit
namespace Sha
open Blo (vol fun_ GotN AnsN Dat FitB words_ vol_length fun_vol)

/-- Whatever of the open ops is kept: block i is then one of f i. -/
def Mays (s : SS) (f : Nat → List Nat) : Prop := ∀ (ks : List Bool) (i : Nat), i < s.n → fun_ ((kept s.opn ks).foldl apv s.sure) (i : Int) ∈ f i
theorem kept_snoc : ∀ (l : List BOp) (o : BOp) (ks : List Bool), kept (l ++ [o]) ks = kept l ks ∨ kept (l ++ [o]) ks = kept l ks ++ [o]
  | [], o, [] => .inl rfl
  | [], o, k :: ks => by
    cases k with
    | true => right; cases ks <;> rfl
    | false => left; cases ks <;> rfl
  | x :: l, o, [] => .inl (by simp [kept])
  | x :: l, o, k :: ks => by
    rcases kept_snoc l o ks with h | h
    · left
      simp only [List.cons_append, kept, h]
    · right
      simp only [List.cons_append, kept, h]
      cases k <;> simp
theorem mays_fix {s : SS} (h1 : s.opn = []) (h2 : s.sure = s.now) : Mays s fun i => [fun_ s.now (i : Int)] := fun ks i _ => by
  have hk : kept [] ks = [] := by cases ks <;> rfl
  rw [h1, h2, hk]
  simp
theorem fun_apv {u : List Nat} {o : BOp} {i : Nat} (hi : i < u.length) : fun_ (apv u o) (i : Int) = if o.at_ (i : Int) = true then o.val (i : Int) else fun_ u (i : Int) := by
  unfold apv
  rw [fun_vol hi]
  rfl
/-- What is allowed behind an op that was done. -/
def mayDo (f : Nat → List Nat) (o : BOp) (v : List Nat) : Nat → List Nat := fun i => if o.at_ (i : Int) = true then f i ++ [fun_ v (i : Int)] else f i
theorem mays_do {s : SS} {f : Nat → List Nat} (hok : Ok s) (h : Mays s f) {o : BOp} (he : doE s o = 0) : Mays (doS s o) (mayDo f o (doS s o).now) := fun ks i hi => by
  unfold doS at hi ⊢
  rw [if_pos he] at hi ⊢
  simp only at hi ⊢
  have hlen := (aps_length (kept s.opn ks) s.sure).trans hok.sure
  have hnow := hok.now
  unfold mayDo
  rw [fun_apv (by omega)]
  rcases kept_snoc s.opn o ks with e | e
  · rw [e]
    have := h ks i hi
    split
    · exact List.mem_append_left _ this
    · exact this
  · rw [e, List.foldl_append, List.foldl_cons, List.foldl_nil, fun_apv (by omega)]
    split
    · simp
    · exact h ks i hi
theorem mays_same {s s' : SS} {f : Nat → List Nat} (h : Mays s f) (h1 : s'.opn = s.opn) (h2 : s'.sure = s.sure) (h3 : s'.n = s.n) : Mays s' f := fun ks i hi => by
  rw [h1, h2]
  exact h ks i (h3 ▸ hi)
/-- What a call of the script does to the open ops, and to what is durable. -/
theorem act_open (s : SS) (a : Actn) :
    (actE s a = 0 ∧ a.kd % 8 = 0 ∧ doE s a.op = 0 ∧ actS s a = doS s a.op) ∨
    ((a.kd % 8 = 6 ∨ (actE s a = 0 ∧ (a.kd % 8 = 1 ∨ a.kd % 8 = 3 ∨ a.kd % 8 = 5))) ∧ (actS s a).opn = [] ∧ (actS s a).sure = (actS s a).now) ∨
    ((actE s a = 0 → a.kd % 8 = 2 ∨ a.kd % 8 = 4 ∨ a.kd % 8 = 7) ∧ a.kd % 8 ≠ 6 ∧ (actS s a).opn = s.opn ∧ (actS s a).sure = s.sure) := by
  have hcases : a.kd % 8 = 0 ∨ a.kd % 8 = 1 ∨ a.kd % 8 = 2 ∨ a.kd % 8 = 3 ∨ a.kd % 8 = 4 ∨ a.kd % 8 = 5 ∨ a.kd % 8 = 6 ∨ a.kd % 8 = 7 := by omega
  rcases hcases with e | e | e | e | e | e | e | e
  · obtain ⟨e1, e2⟩ := act_0 (s := s) e
    rw [e1, e2]
    by_cases h : doE s a.op = 0
    · left; exact ⟨h, e, h, rfl⟩
    · right; right
      refine ⟨fun q => absurd q h, by omega, ?_, ?_⟩ <;> (unfold doS; rw [if_neg h])
  · obtain ⟨e1, e2⟩ := act_1 (s := s) e
    right; left; rw [e1, e2]; exact ⟨.inr ⟨rfl, .inl e⟩, rfl, rfl⟩
  · obtain ⟨e1, e2⟩ := act_2 (s := s) e
    right; right; rw [e1, e2]; exact ⟨fun _ => .inl e, by omega, rfl, rfl⟩
  · obtain ⟨e1, e2⟩ := act_3 (s := s) e
    rw [e1, e2]
    by_cases h : snE s a.id = 0
    · right; left
      refine ⟨.inr ⟨h, .inr (.inl e)⟩, ?_, ?_⟩ <;> (unfold snS; rw [if_pos h]; rfl)
    · right; right
      refine ⟨fun q => absurd q h, by omega, ?_, ?_⟩ <;> (unfold snS; rw [if_neg h])
  · obtain ⟨e1, e2⟩ := act_4 (s := s) e
    right; right; rw [e1, e2]; exact ⟨fun _ => .inr (.inl e), by omega, rfl, rfl⟩
  · obtain ⟨e1, e2⟩ := act_5 (s := s) e
    rw [e1, e2]
    by_cases h : roE s a.id = 0
    · right; left
      refine ⟨.inr ⟨h, .inr (.inr e)⟩, ?_, ?_⟩ <;> (unfold roS; rw [if_pos h]; rfl)
    · right; right
      refine ⟨fun q => absurd q h, by omega, ?_, ?_⟩ <;> (unfold roS; rw [if_neg h])
  · obtain ⟨e1, e2⟩ := act_6 (s := s) e
    right; left; rw [e1]; exact ⟨.inl e, rfl, rfl⟩
  · obtain ⟨e1, e2⟩ := act_7 (s := s) e
    right; right; rw [e1, e2]; exact ⟨fun _ => .inr (.inr e), by omega, rfl, rfl⟩
/-- Behind the Crash at the end each block is one of those that it may be. -/
theorem mays_crash {s : SS} {f : Nat → List Nat} (h : Mays s f) (ks : List Bool) (i : Nat) (hi : i < s.n) : fun_ (crS s ks).now (i : Int) ∈ f i := h ks i hi

/-! ### in memory -/
/-- A slice that reads as these numbers, in a block that is none of the shard's. -/
def Mr (wr : World) (U : Nat → Prop) (A : Option Addr) (m : Nat) (l : List Nat) : Prop :=
  ∃ g o cs, A = some ⟨g, o, none⟩ ∧ m = l.length ∧ Blk wr g 48 cs ∧ ¬ U g ∧ (∀ (j x : Nat), l[j]? = some x → cs[o + j]? = some (.int .u64 (x : Int))) ∧ ∀ x ∈ l, x < 18446744073709551616
theorem Mr.below {wr wx : World} {U : Nat → Prop} {A : Option Addr} {m : Nat} {l : List Nat} (h : Mr wr U A m l) (hb : Below wr.heap.size wr wx) : Mr wx U A m l := by
  obtain ⟨g, o, cs, h1, h2, h3, h4, h5, h6⟩ := h
  exact ⟨g, o, cs, h1, h2, h3.keep hb, h4, h5, h6⟩
theorem Mr.next {wr wx : World} {B : Nat} {U : Nat → Prop} {A : Option Addr} {m : Nat} {l : List Nat} (h : Mr wr U A m l) (hf : Fr B U wr wx) : Mr wx (gr U wr wx) A m l := by
  obtain ⟨g, o, cs, h1, h2, h3, h4, h5, h6⟩ := h
  exact ⟨g, o, cs, h1, h2, hf.blk _ _ _ h3 h4 fot_u64, fun e => by
    have := h3.lt
    rcases e with e | e
    · exact h4 e
    · omega, h5, h6⟩
theorem Mr.turn {wr wx : World} {U : Nat → Prop} {A : Option Addr} {m : Nat} {l : List Nat} (h : Mr wr U A m l) {R : Nat} {t : TypeId} {cs : Array Value} (hR : Blk wr R t cs) (ht : t ≠ 48) (hg : wr.grownBy wx (some R)) : Mr wx U A m l := by
  obtain ⟨g, o, cs', h1, h2, h3, h4, h5, h6⟩ := h
  refine ⟨g, o, cs', h1, h2, h3.grown hg (fun e => ?_), h4, h5, h6⟩
  injection e with e
  subst e
  have q := (show wr.heap[g]? = _ from h3).symm.trans (show wr.heap[g]? = _ from hR)
  injection q with q
  injection q with _ q _
  exact ht q.symm
theorem Mr.ns {wr : World} {U : Nat → Prop} {A : Option Addr} {m : Nat} {l : List Nat} (h : Mr wr U A m l) : Ns wr A m l := by
  obtain ⟨g, o, cs, rfl, rfl, h3, h4, h5, h6⟩ := h
  refine ⟨⟨by simp [nvs], fun j u hu => ?_⟩, h6⟩
  obtain ⟨x, hx, rfl⟩ : ∃ x, l[j]? = some x ∧ u = .int .u64 (x : Int) := by
    simp only [nvs, List.getElem?_map, Option.map_eq_some_iff] at hu
    obtain ⟨x, hx, e⟩ := hu
    exact ⟨x, hx, e.symm⟩
  exact ⟨g, o, rfl, h3.cell (h5 j x hx)⟩
theorem blk_ne {w : World} {a b : Nat} {t t' : TypeId} {cs cs' : Array Value} (h : Blk w a t cs) (k : Blk w b t' cs') (ht : t ≠ t') : a ≠ b := fun e => by
  subst e
  have q := (show w.heap[a]? = _ from h).symm.trans (show w.heap[a]? = _ from k)
  injection q with q
  injection q with _ q _
  exact ht q
theorem Kept.turn {wr wx : World} {U : Nat → Prop} {A : Option Addr} {m c : Nat} {v : List Nat} (h : Kept wr U A m c v) {R : Nat} {t : TypeId} {cs : Array Value} (hR : Blk wr R t cs) (ht : t ≠ 48) (hg : wr.grownBy wx (some R)) : Kept wx U A m c v :=
  ⟨⟨own_grown h.got.own hg (fun k hk e => by
    rcases h.got.own.2 with ⟨e0, _⟩ | ⟨g, cap, cur, e0, _, hh, _⟩
    · rw [e0] at hk; cases hk
    · injection e0 with e1 _ _
      subst e1
      have hk' : g = k := by simpa [Value.ownBlock] using hk
      injection e with e
      exact blk_ne (show Blk wr g _ cur from hh) hR (fun q => ht q.symm) (hk'.trans e)), h.got.low⟩, h.out⟩
/-- What the law keeps: boxes of the shard, of the number and of the row; the shard. -/
structure Du (w wr : World) (b : Nat) (U : Nat → Prop) (s : SS) (N Bs Bn Bm R : Nat) : Prop where
  run : Run w wr b U s
  n : s.n = N
  few : N ≤ 63
  bs : Blk wr Bs 23 #[.pointer (some ⟨b, 0, none⟩)]
  bn : Blk wr Bn 3 #[.int .i64 (N : Int)]
  bm : Blk wr Bm 45 #[.slice (some ⟨R, 0, none⟩) N N]
  us : ¬ U Bs
  un : ¬ U Bn
  um : ¬ U Bm
  ur : ¬ U R
  base : w.heap.size ≤ R
theorem fot_sh : ¬ FoT 23 := by unfold FoT; decide
theorem fot_m1 : ¬ FoT 29 := by unfold FoT; decide
theorem fot_m2 : ¬ FoT 45 := by unfold FoT; decide
/-- The row's first k, which read as f says. -/
def RowTo (wr : World) (U : Nat → Prop) (R N k : Nat) (f : Nat → List Nat) : Prop :=
  ∃ cs : Array Value, Blk wr R 29 cs ∧ cs.size = N ∧ ∀ i, i < k → ∃ A m c, cs[i]? = some (.slice A m c) ∧ m ≤ 9223372036854775807 ∧ Mr wr U A m (f i)
theorem Du.below {w wr wx : World} {b N Bs Bn Bm R : Nat} {U : Nat → Prop} {s : SS} (h : Du w wr b U s N Bs Bn Bm R) (hb : Below wr.heap.size wr wx) : Du w wx b U s N Bs Bn Bm R :=
  ⟨h.run.below hb, h.n, h.few, h.bs.keep hb, h.bn.keep hb, h.bm.keep hb, h.us, h.un, h.um, h.ur, h.base⟩
theorem RowTo.below {wr wx : World} {N k R : Nat} {U : Nat → Prop} {f : Nat → List Nat} (h : RowTo wr U R N k f) (hb : Below wr.heap.size wr wx) : RowTo wx U R N k f := by
  obtain ⟨cs, h1, h2, h3⟩ := h
  refine ⟨cs, h1.keep hb, h2, fun i hi => ?_⟩
  obtain ⟨A, m, c, q1, q2, q3⟩ := h3 i hi
  exact ⟨A, m, c, q1, q2, q3.below hb⟩
theorem Du.next {w wr wx : World} {b N Bs Bn Bm R : Nat} {U : Nat → Prop} {s s' : SS} (h : Du w wr b U s N Bs Bn Bm R) (hN : Nx wr wx w.heap.size U b s') (hn : s'.n = N) (hR : R < wr.heap.size) : Du w wx b (gr U wr wx) s' N Bs Bn Bm R :=
  ⟨h.run.next hN, hn, h.few, hN.fr.blk _ _ _ h.bs h.us fot_sh, hN.fr.blk _ _ _ h.bn h.un fot_int, hN.fr.blk _ _ _ h.bm h.um fot_m2, h.run.out h.bs.lt h.us, h.run.out h.bn.lt h.un, h.run.out h.bm.lt h.um, h.run.out hR h.ur, h.base⟩
theorem RowTo.next {wr wx : World} {B N k R : Nat} {U : Nat → Prop} {f : Nat → List Nat} (h : RowTo wr U R N k f) (hf : Fr B U wr wx) (hu : ¬ U R) : RowTo wx (gr U wr wx) R N k f := by
  obtain ⟨cs, h1, h2, h3⟩ := h
  refine ⟨cs, hf.blk _ _ _ h1 hu fot_m1, h2, fun i hi => ?_⟩
  obtain ⟨A, m, c, q1, q2, q3⟩ := h3 i hi
  exact ⟨A, m, c, q1, q2, q3.next hf⟩
theorem Du.store {w wr : World} {b N Bs Bn Bm R : Nat} {U : Nat → Prop} {s : SS} (h : Du w wr b U s N Bs Bn Bm R) {cs : Array Value} (hR : Blk wr R 29 cs) (k : Nat) (u : Value) : Du w (wr.setCell ⟨R, k, none⟩ u) b U s N Bs Bn Bm R := by
  have hg := grown_setCell wr ⟨R, k, none⟩ u
  refine ⟨⟨h.run.sh.turnedU hg hR (by decide) (by decide) (by decide) h.ur, h.run.bel.grown hg h.run.bel.size (fun j hj => by injection hj with hj; have := h.base; have hj' : R = j := hj; omega)⟩, h.n, h.few, ?_, ?_, ?_, h.us, h.un, h.um, h.ur, h.base⟩
  · exact h.bs.grown hg (fun e => by injection e with e; exact blk_ne h.bs hR (by decide) e)
  · exact h.bn.grown hg (fun e => by injection e with e; exact blk_ne h.bn hR (by decide) e)
  · exact h.bm.grown hg (fun e => by injection e with e; exact blk_ne h.bm hR (by decide) e)
/-- One of the row's slices, written over. -/
theorem RowTo.store {wr : World} {N k R : Nat} {U : Nat → Prop} {f g : Nat → List Nat} {k' : Nat} (h : RowTo wr U R N k f) (j : Nat) (hj : j < N) {A : Option Addr} {m c : Nat} (hm : m ≤ 9223372036854775807) (hA : Mr wr U A m (g j)) (hg : ∀ i, i < k' → i ≠ j → i < k ∧ g i = f i) : RowTo (wr.setCell ⟨R, j, none⟩ (.slice A m c)) U R N k' g := by
  obtain ⟨cs, h1, h2, h3⟩ := h
  have hgr := grown_setCell wr ⟨R, j, none⟩ (.slice A m c)
  refine ⟨cs.setIfInBounds j (.slice A m c), h1.setCell j _, by simp [h2], fun i hi => ?_⟩
  by_cases e : i = j
  · subst e
    exact ⟨A, m, c, by rw [Array.getElem?_setIfInBounds_self_of_lt (by omega)], hm, hA.turn h1 (by decide) hgr⟩
  · obtain ⟨p1, p2⟩ := hg i hi e
    obtain ⟨A', m', c', q1, q2, q3⟩ := h3 i p1
    exact ⟨A', m', c', by rw [Array.getElem?_setIfInBounds_ne (fun q => e q.symm)]; exact q1, q2, by rw [p2]; exact q3.turn h1 (by decide) hgr⟩
section
variable (w w0 : World)
set_option maxRecDepth 100000 in
set_option maxHeartbeats 4000000 in
theorem fix_ (b N Bs Bn Bm R : Nat) (U : Nat → Prop) (s : SS) (f : Nat → List Nat) (hD : Du w w0 b U s N Bs Bn Bm R) (hR : RowTo w0 U R N 0 f) :
    Calls Try.prog 15 #[.pointer (some ⟨Bs, 0, none⟩), .pointer (some ⟨Bn, 0, none⟩), .pointer (some ⟨Bm, 0, none⟩)] w0 fun e w' => e = .returned (.tuple #[]) ∧ Du w w' b U s N Bs Bn Bm R ∧ RowTo w' U R N N (fun i => [fun_ s.now (i : Int)]) ∧ w'.heap.size ≥ w0.heap.size ∧ ∀ k t cs, Blk w0 k t cs → t ≠ 29 → Blk w' k t cs := by
  have hlow := hD.run.sh.ulow
  have c0 := hD.bs.cell (j := 0) (u := .pointer (some ⟨b, 0, none⟩)) rfl
  have c1 := hD.bn.cell (j := 0) (u := .int .i64 (N : Int)) rfl
  have hrd := hD.run.read hD.n
  go_enter Try.func15, Try.ntmps15
  go_wp2_with fail
  refine hrd.mono ?_
  rintro e w4 ⟨A4, m4, c4, rfl, hG4, hb4⟩
  have hD4 := hD.below hb4
  have hR4 : RowTo w4 U R N 0 (fun i => [fun_ s.now (i : Int)]) := by
    obtain ⟨cs, h1, h2, h3⟩ := hR.below hb4
    exact ⟨cs, h1, h2, fun i hi => absurd hi (Nat.not_lt_zero _)⟩
  have hK4 : Kept w4 U A4 m4 c4 s.now := Kept.of (w := w) hG4 (fun j hj => (hlow j hj).2)
  have hm4 : N = m4 := by rw [hG4.ns.len, hD.run.sh.ok.now]; exact hD.n.symm
  subst hm4
  have hbnd := hG4.bounds
  obtain ⟨z1, z2, z3⟩ := hbnd
  have hkeep : ∀ k t cs, Blk w0 k t cs → t ≠ 29 → Blk w4 k t cs := fun k t cs h _ => h.keep hb4
  have hs4 : w0.heap.size ≤ w4.heap.size := hb4.size
  have c2 := hD4.bm.cell (j := 0) (u := .slice (some ⟨R, 0, none⟩) N N) rfl
  clear hrd hG4 hb4 hD hR hlow c0 c1 z3
  go_wp2_with fail
  go_loopw [14] (fun jv wx => ∃ k : Nat, k ≤ N ∧ jv = .int .i64 (k : Int) ∧ Du w wx b U s N Bs Bn Bm R ∧ RowTo wx U R N k (fun i => [fun_ s.now (i : Int)]) ∧ Kept wx U A4 N c4 s.now ∧ w0.heap.size ≤ wx.heap.size ∧ ∀ k t cs, Blk w0 k t cs → t ≠ 29 → Blk wx k t cs) (fun jv _ => N - (intOf jv).toNat)
  case atStart => exact ⟨0, Nat.zero_le _, rfl, hD4, hR4, hK4, hs4, hkeep⟩
  case round =>
    obtain ⟨k, hk, rfl, hD, hR, hK, hs, hkp⟩ := hrel
    clear hD4 hR4 hK4 hs4 hkeep c2
    have hs0 := hs
    have c2 := hD.bm.cell (j := 0) (u := .slice (some ⟨R, 0, none⟩) N N) rfl
    by_cases hlt : k < N
    · have hil : (k : Int) < (N : Int) := by omega
      have hi0 : (0 : Int) ≤ (k : Int) := by omega
      have hlen : s.now.length = N := by rw [hD.run.sh.ok.now]; exact hD.n
      obtain ⟨g4, cap4, cur4, ev4, -, -, -, hk4, -, htk⟩ := own_cells hK.got.own (by omega)
      injection ev4 with ev4 _ ecap
      subst ev4
      subst ecap
      have hnu : ¬ U g4 := hK.out g4 rfl
      have hfew := hD.few
      obtain ⟨cs, hcs, hsz, -⟩ := id hR
      obtain ⟨u, hu⟩ : ∃ u, cs[k]? = some u := ⟨_, Array.getElem?_eq_getElem (by omega)⟩
      have cR := hcs.cell (j := k) hu
      have fR := hcs.free k
      have t1 : (k : Int) ≤ (N : Int) := by omega
      have t2 : ¬ c4 = k := by omega
      have t4 : IntKind.i64.wrap ((k : Int) + 1) = ((k + 1 : Nat) : Int) := by rw [IntKind.wrap_i64]; omega
      have t5 : ((k + 1 : Nat) : Int) ≤ (c4 : Int) := by omega
      have t6 : (k : Int) ≤ ((k + 1 : Nat) : Int) := by omega
      have t7 : k ≤ c4 := by omega
      have t8 : k + 1 - k = 1 := by omega
      have t9 : ((k : Int) + 1).toNat = k + 1 := by omega
      have t10 : (k : Int) + 1 ≤ (c4 : Int) := by omega
      have t11 : (k : Int) ≤ (k : Int) + 1 := by omega
      have t12 : (k : Int) ≤ (c4 : Int) := by omega
      have t13 : k + 1 ≤ c4 := by omega
      have hDn := hD.store hcs k (.slice (some ⟨g4, k, none⟩) 1 (c4 - k))
      have hcur : cur4[k]? = some (.int .u64 ((fun_ s.now (k : Int) : Nat) : Int)) := by
        have h1 : (cur4.toList.take N)[k]? = (nvs s.now)[k]? := by rw [htk]
        rw [List.getElem?_take, if_pos hlt] at h1
        rw [← Array.getElem?_toList, h1]
        simp only [nvs, List.getElem?_map, fun_, List.getD, Int.toNat_natCast]
        rw [List.getElem?_eq_getElem (by omega)]
        rfl
      have hMr : Mr wr U (some ⟨g4, k, none⟩) 1 [fun_ s.now (k : Int)] := ⟨g4, k, cur4, rfl, rfl, hk4, hnu, fun j x hx => by
        cases j with
        | zero => rw [List.getElem?_cons_zero] at hx; injection hx with hx; subst hx; exact hcur
        | succ j => simp at hx, fun x hx => by
        rw [List.mem_singleton.1 hx]
        unfold fun_ List.getD
        cases hq : s.now[(k : Int).toNat]? with
        | none => simp
        | some y => exact hK.got.low y (List.mem_of_getElem? hq)⟩
      have hRn := hR.store (c := c4 - k) (k' := k + 1) (g := fun i => [fun_ s.now (i : Int)]) k hlt (by omega) hMr (fun i hi e => ⟨by omega, rfl⟩)
      have hgr := grown_setCell wr ⟨R, k, none⟩ (.slice (some ⟨g4, k, none⟩) 1 (c4 - k))
      have hKn := hK.turn hcs (by decide) hgr
      have hsn : wr.heap.size ≤ (wr.setCell ⟨R, k, none⟩ (.slice (some ⟨g4, k, none⟩) 1 (c4 - k))).heap.size := hgr.size
      have hkn : ∀ k' t cs', Blk w0 k' t cs' → t ≠ 29 → Blk (wr.setCell ⟨R, k, none⟩ (.slice (some ⟨g4, k, none⟩) 1 (c4 - k))) k' t cs' := fun k' t cs' h ht => (hkp k' t cs' h ht).grown hgr (fun e => by injection e with e; exact blk_ne (hkp k' t cs' h ht) hcs ht e)
      have c2n := hDn.bm.cell (j := 0) (u := .slice (some ⟨R, 0, none⟩) N N) rfl
      clear hMr hcur hkp hK hR hD hgr hcs hsz htk hk4 hlen hs
      go_wp2_with fail
      go_region_held3 (fun w' => w'.cell? ⟨Bm, 0, none⟩ = some (.slice (some ⟨R, 0, none⟩) N N))
        (first | go_keep | exact c2 | exact c2n)
        (fail)
      go_wp2
      go_roundw
      case rel => exact ⟨k + 1, by omega, by go_num, hDn.below (below_drewN (Below.refl _ _) 1), hRn.below (below_drewN (Below.refl _ _) 1), hKn.below (below_drewN (Below.refl _ _) 1), Nat.le_trans hs0 hsn, hkn⟩
      case measure => simp [intOf]; omega
    · have hin : (N : Int) ≤ (k : Int) := by omega
      have hke : k = N := by omega
      subst hke
      go_wp2
      go_end0
      exact ⟨rfl, hD, hR, hs, hkp⟩
end
end Sha
end Go.Proofs.Ytfcfffilfmbpeaa
