/- Layer 17: general words: frames, rows of ints, maps from ints, sets of ints. -/
import Derived.Test.YtpjbeodnalgkfaaBarO
import Derived.Test.YtpjbeodnalgkfaaFn
import Derived.Test.YtpjbeodnalgkfaaStab
import Derived.Test.YtpjbeodnalgkfaaShp
import Derived.Test.YtpjbeodnalgkfaaStep
import Derived.BigQuiet
import Derived.BigRegion
import Derived.Deep.RegionLaw
import Derived.Deep.RegionHeld3
import Derived.Deep.CutBlock
import Derived.Deep.DeepCutAuto
import Derived.Lib.MinMax
import Derived.LaidEqlPtr
import Derived.Maps.OwnSet
set_option linter.all false
namespace Go.Proofs.Ytpjbeodnalgkfaa
open Go.RowKit Go.Maps
namespace Bar

def I64 (z : Int) : Prop := -9223372036854775808 ≤ z ∧ z ≤ 9223372036854775807
/-! ### frames: all blocks that were there, but those of S, stay -/
structure Fu (S : Nat → Prop) (w w' : World) : Prop where
  os : w'.os = w.os
  tape : w'.tape = w.tape
  output : w'.output = w.output
  size : w.heap.size ≤ w'.heap.size
  block : ∀ k, k < w.heap.size → ¬ S k → w'.heap[k]? = w.heap[k]?
theorem Fu.refl (S : Nat → Prop) (w : World) : Fu S w w := ⟨rfl, rfl, rfl, Nat.le_refl _, fun _ _ _ => rfl⟩
theorem Fu.then {S T : Nat → Prop} {a b c : World} (h : Fu S a b) (k : Fu T b c) (ht : ∀ j, T j → S j ∨ a.heap.size ≤ j) : Fu S a c :=
  ⟨k.os.trans h.os, k.tape.trans h.tape, k.output.trans h.output, Nat.le_trans h.size k.size, fun j hj hs => by
    refine (k.block j (Nat.lt_of_lt_of_le hj h.size) (fun hT => ?_)).trans (h.block j hj hs)
    rcases ht j hT with h1 | h1
    · exact hs h1
    · omega⟩
theorem Fu.mono {S T : Nat → Prop} {w w' : World} (h : Fu S w w') (hs : ∀ j, S j → T j) : Fu T w w' := ⟨h.os, h.tape, h.output, h.size, fun j hj ht => h.block j hj (fun s => ht (hs j s))⟩
theorem Fu.ofBelow {S : Nat → Prop} {w w' : World} (h : Below w.heap.size w w') : Fu S w w' := ⟨h.os, h.tape, h.output, h.size, fun j hj _ => h.block j hj⟩
theorem Fu.ofGrown {S : Nat → Prop} {w w' : World} {row : Option Nat} (h : w.grownBy w' row) (hr : ∀ k, row = some k → S k) : Fu S w w' := ⟨h.os, h.tape, h.output, h.size, fun j hj hs => h.block j hj (fun e => hs (hr j e.symm))⟩
theorem Fu.below {S : Nat → Prop} {w w' : World} {B : Nat} (h : Fu S w w') (hB : B ≤ w.heap.size) (hs : ∀ j, S j → B ≤ j) : Below B w w' :=
  ⟨h.os, h.tape, h.output, h.size, fun j hj => h.block j (by omega) (fun s => by have := hs j s; omega)⟩
theorem Fu.drew {S : Nat → Prop} {w w' : World} (h : Fu S w w') : Fu S w w'.drew := ⟨h.os, h.tape, h.output, h.size, h.block⟩
theorem Fu.drewN {S : Nat → Prop} {w w' : World} (h : Fu S w w') (k : Nat) : Fu S w (w'.drewN k) := ⟨h.os, h.tape, h.output, h.size, h.block⟩
theorem Fu.step {S : Nat → Prop} {a b c : World} {row : Option Nat} (h : Fu S a b) (k : b.grownBy c row) (hr : ∀ j, row = some j → S j ∨ a.heap.size ≤ j) : Fu S a c :=
  h.then (T := fun j => row = some j) (Fu.ofGrown k (fun _ e => e)) hr
theorem blk_fu {S : Nat → Prop} {w w' : World} {b : Nat} {t : TypeId} {cs : Array Value} (h : Blk w b t cs) (hf : Fu S w w') (hs : ¬ S b) : Blk w' b t cs := (hf.block b h.lt hs).trans h
theorem own_fu {S : Nat → Prop} {w w' : World} {B : Nat} {e : TypeId} {sz n : Nat} {v : Value} {xs : List Value} (h : w.ownsRow B e sz v n xs) (hf : Fu S w w') (hs : ∀ g, v.ownBlock = some g → ¬ S g) : w'.ownsRow B e sz v n xs := by
  refine ⟨h.1, ?_⟩
  rcases h.2 with h2 | ⟨g, cap, cur, rfl, hb, hh, r⟩
  · exact .inl h2
  · exact .inr ⟨g, cap, cur, rfl, hb, (hf.block g (h.lt g rfl).2 (hs g rfl)).trans hh, r⟩

theorem bs_fu {S : Nat → Prop} {w w' : World} {A : Option Addr} {sz n : Nat} {xs : List Value} (h : Rd w A sz n xs) (hf : Fu S w w') (hs : ∀ a, A = some a → ¬ S a.block) : Rd w' A sz n xs :=
  ⟨h.1, fun j u hu => by
    obtain ⟨b, o, e, hc⟩ := h.2 j u hu
    refine ⟨b, o, e, ?_⟩
    have hb := hf.block b (cell_lt hc) (hs _ e)
    unfold World.cell? at hc ⊢
    simp only at hc ⊢
    rw [hb]
    exact hc⟩
theorem fu_cell {S : Nat → Prop} {w w' : World} (hf : Fu S w w') {p : Addr} {u : Value} (hc : w.cell? p = some u) (hs : ¬ S p.block) : w'.cell? p = some u := by
  have hb := hf.block p.block (cell_lt hc) hs
  unfold World.cell? at hc ⊢
  rw [hb]
  exact hc
theorem blk_ne2 {w : World} {b : Nat} {t : TypeId} {cs : Array Value} (h : Blk w b t cs) {B : Nat} {T : TypeId} {sz n : Nat} {v : Value} {xs : List Value} (hv : w.ownsRow B T sz v n xs) (ht : T ≠ t) : v.ownBlock ≠ some b := by
  intro e
  rcases hv.2 with ⟨rfl, _⟩ | ⟨g, cap, cur, rfl, _, hh, _⟩
  · cases e
  · injection e with e
    simp only at e
    subst e
    have h' : w.heap[g]? = _ := h
    rw [hh] at h'
    injection h' with h'
    injection h' with _ h' _
    exact ht h'

theorem own_grown {w w' : World} {row : Option Nat} {base : Nat} {e : TypeId} {size n : Nat} {v : Value} {xs : List Value} (h : w.ownsRow base e size v n xs) (hg : w.grownBy w' row) (hne : ∀ k, v.ownBlock = some k → some k ≠ row) : w'.ownsRow base e size v n xs := by
  refine ⟨h.1, ?_⟩
  rcases h.2 with h2 | ⟨g, cap, cur, rfl, hb, hh, r⟩
  · exact .inl h2
  · exact .inr ⟨g, cap, cur, rfl, hb, (hg.block g (h.lt g rfl).2 (hne g rfl)).trans hh, r⟩

theorem below_drew {B : Nat} {a w : World} (h : Below B a w) : Below B a w.drew := ⟨h.os, h.tape, h.output, h.size, h.block⟩
theorem fu_set {S : Nat → Prop} {a w : World} (h : Fu S a w) (b j : Nat) (u : Value) (hs : S b) : Fu S a (w.setCell ⟨b, j, none⟩ u) := h.step (grown_setCell w ⟨b, j, none⟩ u) (fun k q => by injection q with q; exact .inl (q ▸ hs))
theorem fu_alloc {S : Nat → Prop} {a w : World} (h : Fu S a w) (o : Obj) : Fu S a (w.alloc o) := h.step (World.grownBy_alloc w o none) (fun k q => by cases q)
theorem fu_map {S : Nat → Prop} {w w' : World} (h : Fu S w w') {H : Type} {P : Program} {k : TypeId} {R : Value → Option (DataW H × List MemPlace)} {b n : Nat} {D : DataW H} (hm : w.ownsMap P k R b n D) (ho : ¬ S b) : w'.ownsMap P k R b n D := by
  have hlt := hm.lt
  obtain ⟨es, clock, hb, r⟩ := hm
  exact ⟨es, clock, (h.block b hlt ho).trans hb, r⟩
/-- A block of cells is no map. -/
theorem blk_map {w : World} {b g n : Nat} {t : TypeId} {cs : Array Value} (h : Blk w b t cs) {H : Type} {P : Program} {k : TypeId} {R : Value → Option (DataW H × List MemPlace)} {D : DataW H} (hm : w.ownsMap P k R g n D) : b ≠ g := fun e => by
  subst e
  obtain ⟨es, clock, hb, r⟩ := hm
  have h2 : w.heap[b]? = _ := h
  rw [hb] at h2
  cases h2
theorem own_map {w : World} {B g n m sz : Nat} {T : TypeId} {v : Value} {xs : List Value} (hv : w.ownsRow B T sz v m xs) {H : Type} {P : Program} {k : TypeId} {R : Value → Option (DataW H × List MemPlace)} {D : DataW H} (hm : w.ownsMap P k R g n D) : v.ownBlock ≠ some g := fun e => by
  rcases hv.2 with ⟨rfl, _⟩ | ⟨b, cap, cur, rfl, _, hh, _⟩
  · cases e
  · injection e with e
    simp only at e
    subst e
    obtain ⟨es, clock, hb, r⟩ := hm
    rw [hb] at hh
    cases hh
theorem blk_ty {w : World} {b c : Nat} {t u : TypeId} {cs ds : Array Value} (h : Blk w b t cs) (k : Blk w c u ds) (ht : t ≠ u) : b ≠ c := fun e => by
  subst e
  have h1 : w.heap[b]? = _ := h
  have h2 : w.heap[b]? = _ := k
  rw [h1] at h2
  injection h2 with h2
  injection h2 with _ h2 _
  exact ht h2

/-! ### rows of ints -/
def ivs (l : List Int) : List Value := l.map fun z => Value.int .i64 z
theorem ivs_length (l : List Int) : (ivs l).length = l.length := by simp [ivs]
theorem ivs_app (l r : List Int) : ivs (l ++ r) = ivs l ++ ivs r := by simp [ivs]
theorem ivs_one (l : List Int) : ∀ u ∈ ivs l, u.oneCell' = true := by
  intro u hu
  obtain ⟨z, _, rfl⟩ := List.mem_map.1 hu
  rfl
/-- The slice value '.slice A n _' reads as ints. -/
def Is (w : World) (A : Option Addr) (n : Nat) (l : List Int) : Prop := Rd w A 1 n (ivs l)
theorem Is.len {w : World} {A : Option Addr} {n : Nat} {l : List Int} (h : Is w A n l) : n = l.length := by
  have := h.1; simp [ivs] at this; omega
theorem Is.get {w : World} {A : Option Addr} {n : Nat} {l : List Int} (h : Is w A n l) {k : Nat} (hk : k < n) : ∃ b o x, A = some ⟨b, o, none⟩ ∧ l[k]? = some x ∧ w.cell? ⟨b, o + k, none⟩ = some (.int .i64 x) := by
  obtain ⟨b, o, e, hx, hc⟩ := Rd.at_ h hk
  have hx' : k < l.length := by simpa [ivs] using hx
  exact ⟨b, o, l[k], e, List.getElem?_eq_getElem hx', by simpa [ivs] using hc⟩
theorem Is.below {w w' : World} {A : Option Addr} {n : Nat} {l : List Int} (h : Is w A n l) (hb : Below w.heap.size w w') : Is w' A n l := Rd.below h hb
theorem Is.alloc {w : World} {A : Option Addr} {n : Nat} {l : List Int} (h : Is w A n l) (o : Obj) : Is (w.alloc o) A n l := Rd.alloc h o
theorem Is.drewN {w : World} {A : Option Addr} {n : Nat} {l : List Int} (h : Is w A n l) (k : Nat) : Is (w.drewN k) A n l := h
theorem Is.nil {w : World} {A : Option Addr} : Is w A 0 [] := ⟨by simp [ivs], by simp [ivs]⟩
theorem Is.new (w : World) (l : List Int) (t : TypeId) {g : Nat} (hg : g = w.heap.size) {C : Array Value} (hC : C = (ivs l).toArray) {n : Nat} (hn : n = l.length) : Is (w.alloc (.cells C t)) (some ⟨g, 0, none⟩) n l := by
  subst hg hC hn
  have := Rd.new w (ivs l).toArray t (0, 0) (sz := 1) (n := l.length) (by simp [ivs])
  unfold Is
  simpa using this
theorem info_int : (Try.prog.info? 3).map (fun i => (i.zero, i.size, i.bytes)) = some (some (.int .i64 0), 1, 8) := by kernel_rfl
theorem int_info : ∃ i, Try.prog.info? 3 = some i ∧ i.zero = some (.int .i64 0) ∧ i.size = 1 ∧ i.bytes = 8 := by
  obtain ⟨i, hi, he⟩ := Option.map_eq_some_iff.1 info_int
  simp only [Prod.mk.injEq] at he
  exact ⟨i, hi, he.1, he.2.1, he.2.2⟩

/-! ### maps from numbers -/
def keyI (j : Int) : Lit := .int .i64 j
theorem keyI_ne {i j : Int} (h : i ≠ j) : keyI i ≠ keyI j := by
  intro e
  simp only [keyI, Lit.int.injEq, true_and] at e
  exact h e
theorem keyI_is (j : Int) : WideAt.IsKeyLit (keyI j) := trivial
theorem key_of {id : Int} (h : I64 id) : keyOf Try.prog 3 (.int .i64 id) = some (keyI id) := keyOf_int_mk Try.underlying3 (WalkArith.wf_i64 (by unfold I64 at h; omega))
theorem zero_int (w : World) : (zeroValue 3).run Try.prog w = .ok (.int .i64 0) w := by
  have h : (Try.prog.info? 3).map (·.zero) = some (some (.int .i64 0)) := by kernel_rfl
  obtain ⟨i, hi, hz⟩ := Option.map_eq_some_iff.1 h
  simp [zeroValue, typeInfo, hi, hz]
theorem zero_unit (w : World) : (zeroValue 84).run Try.prog w = .ok (.agg #[]) w := by
  have h : (Try.prog.info? 84).map (·.zero) = some (some (.agg #[])) := by kernel_rfl
  obtain ⟨i, hi, hz⟩ := Option.map_eq_some_iff.1 h
  simp [zeroValue, typeInfo, hi, hz]
/-- Block mb is a set of the numbers c, of at most k. -/
structure St (w : World) (mb k : Nat) (c : Int → Bool) : Prop where
  own : ∃ D, w.ownsMap (H := Unit) Try.prog 3 unitElem mb k D ∧ Tidy D ∧ ∀ j, Maps.has D (keyI j) = c j
theorem St.lt {w : World} {mb k : Nat} {c : Int → Bool} (h : St w mb k c) : mb < w.heap.size := by obtain ⟨D, h, _⟩ := h.own; exact h.lt
theorem St.fu {w w' : World} {mb k : Nat} {c : Int → Bool} {S : Nat → Prop} (h : St w mb k c) (hf : Fu S w w') (hs : ¬ S mb) : St w' mb k c := by
  obtain ⟨D, h, r⟩ := h.own
  exact ⟨D, fu_map hf h hs, r⟩
theorem St.congr {w : World} {mb k : Nat} {c c' : Int → Bool} (h : St w mb k c) (hc : ∀ j, c' j = c j) : St w mb k c' := by
  have : c' = c := funext hc
  rw [this]; exact h
theorem St.made (w : World) : St (w.alloc (.map #[] 0)) w.heap.size 0 (fun _ => false) := ⟨_, World.ownsMap_made w _ _ _, Maps.tidy_empty, fun _ => rfl⟩
theorem St.look {w : World} {mb k : Nat} {c : Int → Bool} (h : St w mb k c) {id : Int} (hi : I64 id) : (Instr.lookup 75 (.map (some mb)) (.int .i64 id) true).run Try.prog w = .ok (.tuple #[.agg #[], .bool (c id)]) w := by
  obtain ⟨D, h, ht, hm⟩ := h.own
  obtain ⟨v, ps, hrun, hv⟩ := h.look_ok (int_keyed Try.underlying3) Try.underlying75 (zero_unit w) unitElem_mk (key_of hi)
  obtain ⟨rfl, _⟩ := unitElem_inv hv
  rw [hrun, hm]
theorem St.store {w : World} {mb k : Nat} {c c' : Int → Bool} (h : St w mb k c) (hk : k < 9000000000000000000) {id : Int} (hi : I64 id) (hc : ∀ j, c' j = if j = id then true else c j) :
    ∃ w', (Instr.mapUpdate 75 (.map (some mb)) (.int .i64 id) (.agg #[])).run Try.prog w = .ok () w' ∧ St w' mb (k + 1) c' ∧ w.grownBy w' (some mb) := by
  obtain ⟨D, h, ht, hm⟩ := h.own
  obtain ⟨w', hrun, h', hw⟩ := h.store (int_keyed Try.underlying3) Try.underlying75 (by unfold maxLen; omega) (key_of hi) unitElem_mk
  refine ⟨w', hrun, ⟨_, h', ht.put (keyI_is id) _, fun j => ?_⟩, hw.grown⟩
  rw [hc]
  by_cases e : j = id
  · subst e; rw [Maps.has_put_same ht.isMap (keyI_is j), if_pos rfl]
  · rw [Maps.has_put_other (keyI_ne e), hm, if_neg e]
/-- The datum D says what each has come to. -/
structure MgIs (D : DataW Unit) (c : Int → Option Int) : Prop where
  tidy : Maps.Tidy D
  has : ∀ j, Maps.has D (keyI j) = (c j).isSome
  at_ : ∀ j u, c j = some u → ∀ z, D.atKey (keyI j) z = .lit (.int .i64 u)
theorem MgIs.empty : MgIs (.map []) (fun _ => none) := ⟨Maps.tidy_empty, fun _ => rfl, fun _ _ h => (by cases h)⟩
theorem MgIs.put {D : DataW Unit} {c c' : Int → Option Int} (h : MgIs D c) (i u : Int) (hc : ∀ j, c' j = if j = i then some u else c j) : MgIs (D.put (keyI i) (.lit (.int .i64 u))) c' where
  tidy := h.tidy.put (keyI_is i) _
  has j := by
    rw [hc]
    by_cases e : j = i
    · subst e; rw [Maps.has_put_same h.tidy.isMap (keyI_is j)]; simp
    · rw [Maps.has_put_other (keyI_ne e), h.has]; simp [e]
  at_ j v hv z := by
    rw [hc] at hv
    by_cases e : j = i
    · subst e
      simp only [if_pos] at hv
      injection hv with hv
      subst hv
      exact Maps.atKey_put_same h.tidy.isMap (keyI_is j) _ z
    · simp only [if_neg e] at hv
      rw [Maps.atKey_put_other (keyI_ne e)]
      exact h.at_ j v hv z
abbrev Om (w : World) (mb k : Nat) (D : DataW Unit) : Prop := w.ownsMap (H := Unit) Try.prog 3 (plainElem Try.prog 3) mb k D
theorem om_tight {w : World} {mb k : Nat} {D : DataW Unit} (h : Om w mb k D) : Om w mb (Maps.size D) D := by
  obtain ⟨es, clock, hb, F, hs, rfl⟩ := h
  exact ⟨es, clock, hb, F, by simp [Maps.size, length_sorted], rfl⟩
/-- Block mb is a map that says c, of k numbers. -/
structure Mp (w : World) (mb k : Nat) (c : Int → Option Int) : Prop where
  own : ∃ D, Om w mb k D ∧ MgIs D c ∧ Maps.size D = k
theorem Mp.lt {w : World} {mb k : Nat} {c : Int → Option Int} (h : Mp w mb k c) : mb < w.heap.size := by
  obtain ⟨D, h, _⟩ := h.own
  exact h.lt
theorem Mp.fu {w w' : World} {mb k : Nat} {c : Int → Option Int} {S : Nat → Prop} (h : Mp w mb k c) (hf : Fu S w w') (hs : ¬ S mb) : Mp w' mb k c := by
  obtain ⟨D, h, r⟩ := h.own
  exact ⟨D, fu_map hf h hs, r⟩
theorem Mp.congr {w : World} {mb k : Nat} {c c' : Int → Option Int} (h : Mp w mb k c) (hc : ∀ j, c' j = c j) : Mp w mb k c' := by
  have : c' = c := funext hc
  rw [this]; exact h
theorem Mp.made (w : World) : Mp (w.alloc (.map #[] 0)) w.heap.size 0 (fun _ => none) := ⟨_, World.ownsMap_made w _ _ _, MgIs.empty, rfl⟩
theorem Mp.look {w : World} {mb k : Nat} {c : Int → Option Int} (h : Mp w mb k c) {id : Int} (hi : I64 id) : (Instr.lookup 78 (.map (some mb)) (.int .i64 id) false).run Try.prog w = .ok (.int .i64 ((c id).getD 0)) w := by
  obtain ⟨D, h, hm, _⟩ := h.own
  obtain ⟨x, hrun, hat, _⟩ := h.lookup_int (int_keyed Try.underlying3) Try.underlying78 Try.underlying3 (zero_int w) (key_of hi)
  have e : x = (c id).getD 0 := by
    cases hc : c id with
    | none =>
      have : Maps.has D (keyI id) = false := by rw [hm.has, hc]; rfl
      rw [Maps.atKey_of_not_has this] at hat
      simp only [DataW.lit.injEq, Lit.int.injEq, true_and] at hat
      exact hat.symm
    | some u =>
      rw [hm.at_ id u hc] at hat
      simp only [DataW.lit.injEq, Lit.int.injEq, true_and] at hat
      exact hat.symm
  rw [hrun, e]
theorem Mp.len {w : World} {mb k : Nat} {c : Int → Option Int} (h : Mp w mb k c) (ty : TypeId) : (Builtin.len_ #[78] ty #[.map (some mb)]).run Try.prog w = .ok (.int .i64 (k : Int)) w := by
  obtain ⟨D, h, hm, hs⟩ := h.own
  have := h.len Try.underlying78 ty
  rw [hs] at this
  exact this
theorem Mp.store {w : World} {mb k : Nat} {c c' : Int → Option Int} (h : Mp w mb k c) (hk : k ≤ 100000) {id r : Int} (hi : I64 id) (hr : I64 r) (hn : c id = none) (hc : ∀ j, c' j = if j = id then some r else c j) :
    ∃ w', (Instr.mapUpdate 78 (.map (some mb)) (.int .i64 id) (.int .i64 r)).run Try.prog w = .ok () w' ∧ Mp w' mb (k + 1) c' ∧ w.grownBy w' (some mb) := by
  obtain ⟨D, h, hm, hs⟩ := h.own
  obtain ⟨w', hrun, h', ht⟩ := h.store (int_keyed Try.underlying3) Try.underlying78 (by unfold maxLen; omega) (key_of hi) (plainElem_int Try.underlying3 (WalkArith.wf_i64 (by unfold I64 at hr; omega)))
  have h2 := om_tight h'
  rw [Maps.size_put hm.tidy, hm.has, hs, hn] at h2
  exact ⟨w', hrun, ⟨_, h2, hm.put id r hc, by rw [Maps.size_put hm.tidy, hm.has, hs, hn]; rfl⟩, ht.grown⟩
end Bar
end Go.Proofs.Ytpjbeodnalgkfaa
