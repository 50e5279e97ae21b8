/- Layer 12: a shard on the heap: its map of snapshots, its rows. -/
import Derived.Test.YtfcfffilfmbpeaaShaH
import Derived.Maps.OwnSet
set_option linter.all false
namespace Go.Proofs.Ytfcfffilfmbpeaa
open Go.RowKit Go.Maps
namespace Sha
open Blo (vol fun_ GotN AnsN I64 Dat FitB)

/-! ### a map from numbers to numbers -/
def keyI (j : Int) : Lit := .int .i64 j
theorem keyI_ne {i j : Int} (h : i ≠ j) : keyI i ≠ keyI j := by
  intro e
  simp only [keyI, Lit.int.injEq, true_and] at e
  exact h e
theorem keyI_is (j : Int) : WideAt.IsKeyLit (keyI j) := trivial
/-- The datum D says where the snapshots' trees are. -/
structure MgIs (D : DataW Unit) (c : Int → Option Int) : Prop where
  tidy : Maps.Tidy D
  has : ∀ j, Maps.has D (keyI j) = (c j).isSome
  at_ : ∀ j u, c j = some u → ∀ z, D.atKey (keyI j) z = .lit (.int .i64 u)
theorem MgIs.empty : MgIs (.map []) (fun _ => none) := ⟨Maps.tidy_empty, fun _ => rfl, fun _ _ h => (by cases h)⟩
theorem MgIs.put {D : DataW Unit} {c c' : Int → Option Int} (h : MgIs D c) (i u : Int) (hc : ∀ j, c' j = if j = i then some u else c j) : MgIs (D.put (keyI i) (.lit (.int .i64 u))) c' where
  tidy := h.tidy.put (keyI_is i) _
  has j := by
    rw [hc]
    by_cases e : j = i
    · subst e; rw [Maps.has_put_same h.tidy.isMap (keyI_is j)]; simp
    · rw [Maps.has_put_other (keyI_ne e), h.has]; simp [e]
  at_ j v hv z := by
    rw [hc] at hv
    by_cases e : j = i
    · subst e
      simp only [if_pos] at hv
      injection hv with hv
      subst hv
      exact Maps.atKey_put_same h.tidy.isMap (keyI_is j) _ z
    · simp only [if_neg e] at hv
      rw [Maps.atKey_put_other (keyI_ne e)]
      exact h.at_ j v hv z
theorem MgIs.del {D : DataW Unit} {c c' : Int → Option Int} (h : MgIs D c) (i : Int) (hc : ∀ j, c' j = if j = i then none else c j) : MgIs (D.del (keyI i)) c' where
  tidy := h.tidy.del _
  has j := by
    rw [hc]
    by_cases e : j = i
    · subst e; rw [Maps.has_del_same]; simp
    · rw [Maps.has_del_other (keyI_ne e), h.has]; simp [e]
  at_ j v hv z := by
    rw [hc] at hv
    by_cases e : j = i
    · subst e; simp at hv
    · simp only [if_neg e] at hv
      rw [Maps.atKey_del_other (keyI_ne e)]
      exact h.at_ j v hv z
abbrev Om (w : World) (mb k : Nat) (D : DataW Unit) : Prop := w.ownsMap (H := Unit) Try.prog 3 (plainElem Try.prog 3) mb k D
theorem om_tight {w : World} {mb k : Nat} {D : DataW Unit} (h : Om w mb k D) : Om w mb (Maps.size D) D := by
  obtain ⟨es, clock, hb, F, hs, rfl⟩ := h
  exact ⟨es, clock, hb, F, by simp [Maps.size, length_sorted], rfl⟩
/-- Block mb is a map that says c, of k numbers. -/
structure Mp (w : World) (mb k : Nat) (c : Int → Option Int) : Prop where
  own : ∃ D, Om w mb k D ∧ MgIs D c ∧ Maps.size D = k
theorem zero_int (w : World) : (zeroValue 3).run Try.prog w = .ok (.int .i64 0) w := by
  have h : (Try.prog.info? 3).map (·.zero) = some (some (.int .i64 0)) := by kernel_rfl
  obtain ⟨i, hi, hz⟩ := Option.map_eq_some_iff.1 h
  simp [zeroValue, typeInfo, hi, hz]
theorem key_of {id : Int} (h : I64 id) : keyOf Try.prog 3 (.int .i64 id) = some (keyI id) := keyOf_int_mk Try.underlying3 (WalkArith.wf_i64 (by unfold I64 at h; omega))
theorem Mp.lt {w : World} {mb k : Nat} {c : Int → Option Int} (h : Mp w mb k c) : mb < w.heap.size := by
  obtain ⟨D, h, _⟩ := h.own
  exact h.lt
theorem Mp.kept {w w' : World} {mb k : Nat} {c : Int → Option Int} {row : Option Nat} (h : Mp w mb k c) (hg : w.grownBy w' row) (hne : some mb ≠ row) : Mp w' mb k c := by
  obtain ⟨D, h, r⟩ := h.own
  exact ⟨D, h.kept hg hne, r⟩
theorem Mp.below {w w' : World} {mb k : Nat} {c : Int → Option Int} (h : Mp w mb k c) (hb : Below w.heap.size w w') : Mp w' mb k c := h.kept (below_grown hb none) (by simp)
theorem Mp.congr {w : World} {mb k : Nat} {c c' : Int → Option Int} (h : Mp w mb k c) (hc : ∀ j, c' j = c j) : Mp w mb k c' := by
  have : c' = c := funext hc
  rw [this]; exact h
theorem Mp.made (w : World) : Mp (w.alloc (.map #[] 0)) w.heap.size 0 (fun _ => none) := ⟨_, World.ownsMap_made w _ _ _, MgIs.empty, rfl⟩
/-- The map is no block of cells. -/
theorem Mp.apart {w : World} {mb k : Nat} {c : Int → Option Int} (h : Mp w mb k c) {g : Nat} {t : TypeId} {cs : Array Value} (hb : Blk w g t cs) : g ≠ mb := fun e => by
  subst e
  obtain ⟨D, ⟨es, clock, h1, _⟩, _⟩ := h.own
  have h2 : w.heap[g]? = some (.cells cs t (0, 0)) := hb
  rw [h2] at h1
  cases h1
theorem Mp.apartO {w : World} {mb k : Nat} {c : Int → Option Int} (h : Mp w mb k c) {B : Nat} {e : TypeId} {sz n : Nat} {v : Value} {xs : List Value} (hv : w.ownsRow B e sz v n xs) : v.ownBlock ≠ some mb := fun q => by
  obtain ⟨cs, hb⟩ := own_blk2 hv q
  exact h.apart hb rfl
theorem Mp.ty {w w' : World} {mb k : Nat} {c : Int → Option Int} (h : Mp w mb k c) (hg : w.grownBy w' (some mb)) : Ty (fun _ => False) w w' :=
  ⟨hg.os, hg.tape, hg.output, hg.size, fun i t cs hi _ => hi.grown hg (fun e => h.apart hi (by injection e))⟩
theorem Mp.look {w : World} {mb k : Nat} {c : Int → Option Int} (h : Mp w mb k c) {id : Int} (hi : I64 id) : (Instr.lookup 63 (.map (some mb)) (.int .i64 id) false).run Try.prog w = .ok (.int .i64 ((c id).getD 0)) w := by
  obtain ⟨D, h, hm, _⟩ := h.own
  obtain ⟨x, hrun, hat, _⟩ := h.lookup_int (int_keyed Try.underlying3) Try.underlying63 Try.underlying3 (zero_int w) (key_of hi)
  have e : x = (c id).getD 0 := by
    cases hc : c id with
    | none =>
      have : Maps.has D (keyI id) = false := by rw [hm.has, hc]; rfl
      rw [Maps.atKey_of_not_has this] at hat
      simp only [DataW.lit.injEq, Lit.int.injEq, true_and] at hat
      exact hat.symm
    | some u =>
      rw [hm.at_ id u hc] at hat
      simp only [DataW.lit.injEq, Lit.int.injEq, true_and] at hat
      exact hat.symm
  rw [hrun, e]
theorem Mp.look_ok {w : World} {mb k : Nat} {c : Int → Option Int} (h : Mp w mb k c) {id : Int} (hi : I64 id) : ∃ x : Int, (Instr.lookup 63 (.map (some mb)) (.int .i64 id) true).run Try.prog w = .ok (.tuple #[.int .i64 x, .bool (c id).isSome]) w := by
  obtain ⟨D, h, hm, _⟩ := h.own
  obtain ⟨v, ps, hrun, hv⟩ := h.look_ok (int_keyed Try.underlying3) Try.underlying63 (zero_int w) (plainElem_int Try.underlying3 (by decide)) (key_of hi)
  obtain ⟨x, rfl, _⟩ := plainElem_int_inv Try.underlying3 hv
  exact ⟨x, by rw [hrun, hm.has]⟩
theorem Mp.store {w : World} {mb k : Nat} {c c' : Int → Option Int} (h : Mp w mb k c) (hk : k ≤ 1000) {id r : Int} (hi : I64 id) (hr : I64 r) (hc : ∀ j, c' j = if j = id then some r else c j) :
    ∃ w', (Instr.mapUpdate 63 (.map (some mb)) (.int .i64 id) (.int .i64 r)).run Try.prog w = .ok () w' ∧ Mp w' mb (if (c id).isSome then k else k + 1) c' ∧ w.grownBy w' (some mb) := by
  obtain ⟨D, h, hm, hs⟩ := h.own
  obtain ⟨w', hrun, h', ht⟩ := h.store (int_keyed Try.underlying3) Try.underlying63 (by unfold maxLen; omega) (key_of hi) (plainElem_int Try.underlying3 (WalkArith.wf_i64 (by unfold I64 at hr; omega)))
  have h2 := om_tight h'
  rw [Maps.size_put hm.tidy, hm.has, hs] at h2
  exact ⟨w', hrun, ⟨_, h2, hm.put id r hc, by rw [Maps.size_put hm.tidy, hm.has, hs]⟩, ht.grown⟩
theorem Mp.drop {w : World} {mb k : Nat} {c c' : Int → Option Int} (h : Mp w mb (k + 1) c) {id : Int} (hi : I64 id) (hh : (c id).isSome = true) (hc : ∀ j, c' j = if j = id then none else c j) (ty : TypeId) :
    ∃ w', (Builtin.delete_ #[63, 3] ty #[.map (some mb), .int .i64 id]).run Try.prog w = .ok (.tuple #[]) w' ∧ Mp w' mb k c' ∧ w.grownBy w' (some mb) := by
  obtain ⟨D, h, hm, hs⟩ := h.own
  obtain ⟨w', hrun, h', ht⟩ := h.drop (int_keyed Try.underlying3) Try.underlying63 (key_of hi) ty
  have h2 := om_tight h'
  have e : Maps.size (D.del (keyI id)) = k := by
    have := Maps.size_del (k := keyI id) hm.tidy
    rw [hm.has, hh, hs] at this
    simp only [if_pos] at this
    omega
  rw [e] at h2
  exact ⟨w', hrun, ⟨_, h2, hm.del id hc, e⟩, ht.grown⟩

/-! ### rows of numbers, of changes -/
def ivs (l : List Int) : List Value := l.map fun n => Value.int .i64 n
theorem ivs_length (l : List Int) : (ivs l).length = l.length := by simp [ivs]
theorem ivs_one (l : List Int) : ∀ u ∈ ivs l, u.oneCell' = true := by
  intro u hu
  obtain ⟨z, _, rfl⟩ := List.mem_map.1 hu
  rfl
theorem ivs_app (l l' : List Int) : ivs (l ++ l') = ivs l ++ ivs l' := by simp [ivs]
def cvs (l : List Chn) : List Value := l.flatMap cvl
theorem cvs_app (l l' : List Chn) : cvs (l ++ l') = cvs l ++ cvs l' := by simp [cvs]
theorem cvs_len (l : List Chn) : (cvs l).length = l.length * 5 := by
  induction l with
  | nil => rfl
  | cons c l ih => simp [cvs] at ih ⊢; omega
theorem cvs_one (l : List Chn) : ∀ u ∈ cvs l, u.oneCell' = true := by
  intro u hu
  obtain ⟨x, _, hx⟩ := List.mem_flatMap.1 hu
  simp only [cvl, List.mem_cons, List.not_mem_nil, or_false] at hx
  rcases hx with rfl | rfl | rfl | rfl | rfl <;> rfl
theorem cvs_at : ∀ {l : List Chn} {k : Nat} {c : Chn}, l[k]? = some c → ∀ j u, (cvl c)[j]? = some u → (cvs l)[k * 5 + j]? = some u
  | x :: l, 0, c, h, j, u, hu => by
    simp only [List.getElem?_cons_zero, Option.some.injEq] at h
    subst h
    have hj : j < (cvl x).length := (List.getElem?_eq_some_iff.1 hu).1
    simp only [cvs, List.flatMap_cons, Nat.zero_mul, Nat.zero_add]
    rw [List.getElem?_append_left hj]
    exact hu
  | x :: l, k + 1, c, h, j, u, hu => by
    simp only [List.getElem?_cons_succ] at h
    have := cvs_at h j u hu
    simp only [cvs, List.flatMap_cons]
    rw [List.getElem?_append_right (by simp; omega)]
    simp only [cvl, List.length_cons, List.length_nil]
    rw [show (k + 1) * 5 + j - (0 + 1 + 1 + 1 + 1 + 1) = k * 5 + j by omega]
    exact this
theorem info_int : (Try.prog.info? 3).map (fun i => (i.zero, i.size, i.bytes)) = some (some (.int .i64 0), 1, 8) := by kernel_rfl
theorem int_info : ∃ i, Try.prog.info? 3 = some i ∧ i.zero = some (.int .i64 0) ∧ i.size = 1 ∧ i.bytes = 8 := by
  obtain ⟨i, hi, he⟩ := Option.map_eq_some_iff.1 info_int
  simp only [Prod.mk.injEq] at he
  exact ⟨i, hi, he.1, he.2.1, he.2.2⟩
theorem info_chg : (Try.prog.info? 79).map (fun i => (i.zero, i.size, i.bytes)) = some (some (.agg #[.int .i64 0, .int .i64 0, .int .i64 0, .int .i64 0, .int .i64 0]), 5, 40) := by kernel_rfl
theorem chg_info : ∃ i, Try.prog.info? 79 = some i ∧ i.zero = some (.agg #[.int .i64 0, .int .i64 0, .int .i64 0, .int .i64 0, .int .i64 0]) ∧ i.size = 5 ∧ i.bytes = 40 := by
  obtain ⟨i, hi, he⟩ := Option.map_eq_some_iff.1 info_chg
  simp only [Prod.mk.injEq] at he
  exact ⟨i, hi, he.1, he.2.1, he.2.2⟩

/-! ### two lists, one by one -/
inductive All2 {α β : Type} (R : α → β → Prop) : List α → List β → Prop
  | nil : All2 R [] []
  | cons {a : α} {b : β} {l : List α} {m : List β} : R a b → All2 R l m → All2 R (a :: l) (b :: m)
theorem All2.length {α β : Type} {R : α → β → Prop} : ∀ {l : List α} {m : List β}, All2 R l m → l.length = m.length
  | _, _, .nil => rfl
  | _, _, .cons _ h => by simp [h.length]
theorem All2.imp {α β : Type} {R S : α → β → Prop} (hi : ∀ a b, R a b → S a b) : ∀ {l : List α} {m : List β}, All2 R l m → All2 S l m
  | _, _, .nil => .nil
  | _, _, .cons h t => .cons (hi _ _ h) (t.imp hi)
theorem All2.snoc {α β : Type} {R : α → β → Prop} {a : α} {b : β} (hab : R a b) : ∀ {l : List α} {m : List β}, All2 R l m → All2 R (l ++ [a]) (m ++ [b])
  | _, _, .nil => .cons hab .nil
  | _, _, .cons h t => .cons h (t.snoc hab)
theorem All2.get {α β : Type} {R : α → β → Prop} : ∀ {l : List α} {m : List β}, All2 R l m → ∀ {i : Nat} {a : α}, l[i]? = some a → ∃ b, m[i]? = some b ∧ R a b
  | _, _, .cons h t, 0, a, e => by simp only [List.getElem?_cons_zero, Option.some.injEq] at e; subst e; exact ⟨_, rfl, h⟩
  | _, _, .cons h t, i + 1, a, e => by simp only [List.getElem?_cons_succ] at e ⊢; exact t.get e
theorem All2.filter {α β : Type} {R : α → β → Prop} {p : α → Bool} {q : β → Bool} (hpq : ∀ a b, R a b → p a = q b) : ∀ {l : List α} {m : List β}, All2 R l m → All2 R (l.filter p) (m.filter q)
  | _, _, .nil => .nil
  | _, _, .cons (a := a) (b := b) h t => by
    have e := hpq a b h
    have ih := t.filter hpq
    cases hp : p a with
    | true => rw [List.filter_cons_of_pos hp, List.filter_cons_of_pos (e ▸ hp)]; exact .cons h ih
    | false => rw [List.filter_cons_of_neg (by simp [hp]), List.filter_cons_of_neg (by rw [← e]; simp [hp])]; exact ih
theorem All2.map_eq {α β γ : Type} {R : α → β → Prop} {f : α → γ} {g : β → γ} (hf : ∀ a b, R a b → f a = g b) : ∀ {l : List α} {m : List β}, All2 R l m → l.map f = m.map g
  | _, _, .nil => rfl
  | _, _, .cons h t => by rw [List.map_cons, List.map_cons, hf _ _ h, t.map_eq hf]
theorem All2.find {α β : Type} {R : α → β → Prop} {p : α → Bool} {q : β → Bool} (hpq : ∀ a b, R a b → p a = q b) : ∀ {l : List α} {m : List β}, All2 R l m → (l.find? p = none ∧ m.find? q = none) ∨ ∃ a b, l.find? p = some a ∧ m.find? q = some b ∧ R a b
  | _, _, .nil => .inl ⟨rfl, rfl⟩
  | _, _, .cons (a := a) (b := b) h t => by
    have e := hpq a b h
    cases hp : p a with
    | true => exact .inr ⟨a, b, by rw [List.find?_cons_of_pos hp], by rw [List.find?_cons_of_pos (e ▸ hp)], h⟩
    | false =>
      rw [List.find?_cons_of_neg (by simp [hp]), List.find?_cons_of_neg (by rw [← e]; simp [hp])]
      exact t.find hpq

/-! ### a shard -/
structure CS where
  f : Nat
  uv : Value
  u : List Nat
  ls : List Root
  now : Nat
  sure : Nat
  ov : Value
  oc : List Chn
  mb : Nat
  rv : Value
  roots : List (Int × Nat)
def rootOf (l : List (Int × Nat)) (id : Int) : Option Int := (l.find? fun q => decide (q.1 = id)).map fun q => (q.2 : Int)
abbrev sha (b : Nat) (s : SS) (k : CS) : Array Value := #[.pointer (some ⟨b, 0, none⟩), .int .i64 (s.n : Int), .pointer (some ⟨k.f, 0, none⟩), k.uv, .int .i64 (k.now : Int), .int .i64 (k.sure : Int), k.ov, .map (some k.mb), k.rv, .bool s.frz]
/-- All but the shard's own cells. -/
structure ShR (w : World) (B : Nat) (U : Nat → Prop) (b : Nat) (s : SS) (k : CS) : Prop where
  gm : Gm w B U s.n k.f k.uv k.u k.ls
  base : B ≤ b
  ub : U b
  ulow : ∀ j, U j → B ≤ j ∧ j < w.heap.size
  spare : k.u.length + 1024 ≤ 1024 * k.ls.length
  zero : k.ls[0]? = some (none, .nil)
  now : Shw s.n k.ls k.u k.now s.now
  sure : Shw s.n k.ls k.u k.sure s.sure
  orow : w.ownsRow B 79 5 k.ov k.oc.length (cvs k.oc)
  oout : ∀ g, k.ov.ownBlock = some g → U g
  ops : All2 (Cho s.n k.u) k.oc s.opn
  rrow : w.ownsRow B 3 1 k.rv k.roots.length (ivs (k.roots.map Prod.fst))
  rout : ∀ g, k.rv.ownBlock = some g → U g
  map : Mp w k.mb k.roots.length (rootOf k.roots)
  mout : U k.mb
  snaps : All2 (fun (q : Int × Nat) (p : Int × List Nat) => q.1 = p.1 ∧ Shw s.n k.ls k.u q.2 p.2) k.roots s.snaps
  ok : Ok s
structure ShX (w : World) (B : Nat) (U : Nat → Prop) (b : Nat) (s : SS) (k : CS) : Prop where
  blk : Blk w b 65 (sha b s k)
  r : ShR w B U b s k
/-- A shard that New gave, in block b; what it writes to is U's, or a forest's. -/
def Sh (w : World) (B : Nat) (U : Nat → Prop) (b : Nat) (s : SS) : Prop := ∃ k, ShX w B U b s k ∧ k.ls.length ≤ 257 + s.opn.length
/-- Whose block is turned: none of the rows', no forest's. -/
theorem ShR.turned {w w' : World} {B b g : Nat} {U : Nat → Prop} {s : SS} {k : CS} {t : TypeId} {cs : Array Value} (h : ShR w B U b s k) (hg : w.grownBy w' (some g)) (hb : Blk w g t cs) (h1 : t ≠ 106) (h2 : t ≠ 103) (h3 : t ≠ 126)
    (h4 : k.uv.ownBlock ≠ some g) (h5 : k.ov.ownBlock ≠ some g) (h6 : k.rv.ownBlock ≠ some g) : ShR w' B U b s k where
  gm := h.gm.grown hg hb h4 h1 h2 h3
  base := h.base
  ub := h.ub
  ulow j hj := ⟨(h.ulow j hj).1, Nat.lt_of_lt_of_le (h.ulow j hj).2 hg.size⟩
  spare := h.spare
  zero := h.zero
  now := h.now
  sure := h.sure
  orow := own_grown h.orow hg (fun q hq e => h5 (by rw [hq]; exact e))
  oout := h.oout
  ops := h.ops
  rrow := own_grown h.rrow hg (fun q hq e => h6 (by rw [hq]; exact e))
  rout := h.rout
  map := h.map.kept hg (fun e => by injection e with e; exact h.map.apart hb e.symm)
  mout := h.mout
  snaps := h.snaps
  ok := h.ok
theorem ShR.apart {w : World} {B b g : Nat} {U : Nat → Prop} {s : SS} {k : CS} {t : TypeId} {cs : Array Value} (h : ShR w B U b s k) (hb : Blk w g t cs) (h1 : t ≠ 48) (h2 : t ≠ 79) (h3 : t ≠ 3) : k.uv.ownBlock ≠ some g ∧ k.ov.ownBlock ≠ some g ∧ k.rv.ownBlock ≠ some g := by
  refine ⟨h.gm.apart hb h1, fun e => ?_, fun e => ?_⟩
  · obtain ⟨cs', q⟩ := own_blk2 h.orow e
    exact h2 (blk_type hb q)
  · obtain ⟨cs', q⟩ := own_blk2 h.rrow e
    exact h3 (blk_type hb q)
/-- The shard's own block is turned, or one of another type. -/
theorem ShR.turnedT {w w' : World} {B b g : Nat} {U : Nat → Prop} {s : SS} {k : CS} {t : TypeId} {cs : Array Value} (h : ShR w B U b s k) (hg : w.grownBy w' (some g)) (hb : Blk w g t cs) (h1 : t ≠ 106) (h2 : t ≠ 103) (h3 : t ≠ 126) (h4 : t ≠ 48) (h5 : t ≠ 79) (h6 : t ≠ 3) : ShR w' B U b s k := by
  obtain ⟨q1, q2, q3⟩ := h.apart hb h4 h5 h6
  exact h.turned hg hb h1 h2 h3 q1 q2 q3
/-- A block is turned that is none of U. -/
theorem ShR.turnedU {w w' : World} {B b g : Nat} {U : Nat → Prop} {s : SS} {k : CS} {t : TypeId} {cs : Array Value} (h : ShR w B U b s k) (hg : w.grownBy w' (some g)) (hb : Blk w g t cs) (h1 : t ≠ 106) (h2 : t ≠ 103) (h3 : t ≠ 126) (hu : ¬ U g) : ShR w' B U b s k :=
  h.turned hg hb h1 h2 h3 (fun e => hu (h.gm.out g e)) (fun e => hu (h.oout g e)) (fun e => hu (h.rout g e))
theorem ShR.below {w w' : World} {B b : Nat} {U : Nat → Prop} {s : SS} {k : CS} (h : ShR w B U b s k) (hb : Below w.heap.size w w') : ShR w' B U b s k :=
  { gm := h.gm.below hb, base := h.base, ub := h.ub, ulow := fun j hj => ⟨(h.ulow j hj).1, Nat.lt_of_lt_of_le (h.ulow j hj).2 hb.size⟩, spare := h.spare, zero := h.zero, now := h.now, sure := h.sure, orow := own_keep h.orow hb, oout := h.oout, ops := h.ops, rrow := own_keep h.rrow hb, rout := h.rout, map := h.map.below hb, mout := h.mout, snaps := h.snaps, ok := h.ok }
theorem ShX.below {w w' : World} {B b : Nat} {U : Nat → Prop} {s : SS} {k : CS} (h : ShX w B U b s k) (hb : Below w.heap.size w w') : ShX w' B U b s k := ⟨h.blk.keep hb, h.r.below hb⟩
theorem Sh.below {w w' : World} {B b : Nat} {U : Nat → Prop} {s : SS} (h : Sh w B U b s) (hb : Below w.heap.size w w') : Sh w' B U b s := by
  obtain ⟨k, h, ht⟩ := h
  exact ⟨k, h.below hb, ht⟩
theorem ShX.drew {w : World} {B b : Nat} {U : Nat → Prop} {s : SS} {k : CS} (h : ShX w B U b s k) : ShX w.drew B U b s k := h.below (below_drewN (Below.refl _ _) 1)
theorem Sh.drew {w : World} {B b : Nat} {U : Nat → Prop} {s : SS} (h : Sh w B U b s) : Sh w.drew B U b s := h.below (below_drewN (Below.refl _ _) 1)
theorem Sh.alloc {w : World} {B b : Nat} {U : Nat → Prop} {s : SS} (h : Sh w B U b s) (o : Obj) : Sh (w.alloc o) B U b s := h.below ((Below.refl _ _).alloc (Nat.le_refl _) _)
theorem Sh.turnedU {w w' : World} {B b g : Nat} {U : Nat → Prop} {s : SS} {t : TypeId} {cs : Array Value} (h : Sh w B U b s) (hg : w.grownBy w' (some g)) (hb : Blk w g t cs) (h1 : t ≠ 106) (h2 : t ≠ 103) (h3 : t ≠ 126) (hu : ¬ U g) : Sh w' B U b s := by
  obtain ⟨k, h, ht⟩ := h
  exact ⟨k, ⟨h.blk.grown hg (fun e => by injection e with e; exact hu (e ▸ h.r.ub)), h.r.turnedU hg hb h1 h2 h3 hu⟩, ht⟩
theorem Sh.ok {w : World} {B b : Nat} {U : Nat → Prop} {s : SS} (h : Sh w B U b s) : Ok s := by obtain ⟨k, h, _⟩ := h; exact h.r.ok
theorem Sh.ulow {w : World} {B b : Nat} {U : Nat → Prop} {s : SS} (h : Sh w B U b s) : ∀ j, U j → B ≤ j ∧ j < w.heap.size := by obtain ⟨k, h, _⟩ := h; exact h.r.ulow
theorem Sh.lt {w : World} {B b : Nat} {U : Nat → Prop} {s : SS} (h : Sh w B U b s) : B ≤ b ∧ b < w.heap.size := by obtain ⟨k, h, _⟩ := h; exact ⟨h.r.base, h.blk.lt⟩
theorem Sh.base {w : World} {B b : Nat} {U : Nat → Prop} {s : SS} (h : Sh w B U b s) : B ≤ w.heap.size := by have := h.lt; omega
/-- The set of blocks may be wider. -/
theorem ShR.sub {w : World} {B b : Nat} {U U' : Nat → Prop} {s : SS} {k : CS} (h : ShR w B U b s k) (hu : ∀ j, U j → U' j) (hl : ∀ j, U' j → B ≤ j ∧ j < w.heap.size) : ShR w B U' b s k :=
  { gm := h.gm.sub fun j _ hj => hu j hj, base := h.base, ub := hu _ h.ub, ulow := hl, spare := h.spare, zero := h.zero, now := h.now, sure := h.sure, orow := h.orow, oout := fun g hg => hu g (h.oout g hg), ops := h.ops, rrow := h.rrow, rout := fun g hg => hu g (h.rout g hg), map := h.map, mout := hu _ h.mout, snaps := h.snaps, ok := h.ok }

/-! ### methods that only look -/
theorem ShX.cell {w : World} {B b : Nat} {U : Nat → Prop} {s : SS} {k : CS} (h : ShX w B U b s k) {j : Nat} {u : Value} (hu : (sha b s k)[j]? = some u) : w.cell? ⟨b, j, none⟩ = some u := h.blk.cell hu
theorem size_shard : (Try.prog.info? 65).map (·.size) = some 10 := by kernel_rfl
theorem eql_shard (a : Addr) (w : World) : (binOp .eql 23 (.pointer (some a)) (.pointer (some a))).run Try.prog w = .ok (.bool true) w := by
  obtain ⟨j, hj, _⟩ := Option.map_eq_some_iff.1 size_shard
  exact run_eql_ptr_same w a Try.underlying23 hj
theorem eql_shard_none (a : Addr) (w : World) : (binOp .eql 23 (.pointer none) (.pointer (some a))).run Try.prog w = .ok (.bool false) w := by
  have h : ∀ d : Nat, (Op.equalIn (d + 1) 23 (.pointer none) (.pointer (some a))).run Try.prog w = .ok false w := fun d => by
    simp [Op.equalIn, run_underlying Try.underlying23]
  simp only [binOp]
  simp [Op.equal, Op.maxDepth, h 9999]
/-- A shard that nobody made: nil, or a zero one. -/
def NoSh (w : World) : Option Addr → Prop
  | none => True
  | some p => ∃ b, p = ⟨b, 0, none⟩ ∧ w.cell? ⟨b, 0, none⟩ = some (.pointer none)
section
variable (w : World)
set_option maxRecDepth 100000 in
theorem made_ (b : Nat) (d0 : w.cell? ⟨b, 0, none⟩ = some (.pointer (some ⟨b, 0, none⟩))) : Calls Try.prog 26 #[.pointer (some ⟨b, 0, none⟩)] w fun e w' => e = .returned (.bool true) ∧ w = w' := by
  have q := eql_shard ⟨b, 0, none⟩ w
  go_enter Try.func26, Try.ntmps26
  go_wp2
  go_ret
  exact ⟨rfl, rfl⟩
set_option maxRecDepth 100000 in
theorem made_no (p : Option Addr) (h : NoSh w p) : Calls Try.prog 26 #[.pointer p] w fun e w' => e = .returned (.bool false) ∧ w = w' := by
  cases p with
  | none =>
    go_enter Try.func26, Try.ntmps26
    go_wp2
    go_ret
    exact ⟨rfl, rfl⟩
  | some p =>
    obtain ⟨b, rfl, c0⟩ := h
    have q := eql_shard_none ⟨b, 0, none⟩ w
    go_enter Try.func26, Try.ntmps26
    go_wp2
    go_ret
    exact ⟨rfl, rfl⟩
variable (B b : Nat) (U : Nat → Prop) (s : SS)
theorem ShX.made {w : World} {B b : Nat} {U : Nat → Prop} {s : SS} {k : CS} (h : ShX w B U b s k) : Calls Try.prog 26 #[.pointer (some ⟨b, 0, none⟩)] w fun e w' => e = .returned (.bool true) ∧ w = w' := made_ w b (h.cell rfl)
theorem has_root {n : Nat} {ls : List Root} {u : List Nat} {l : List (Int × Nat)} {m : List (Int × List Nat)} (h : All2 (fun (q : Int × Nat) (p : Int × List Nat) => q.1 = p.1 ∧ Shw n ls u q.2 p.2) l m) (id : Int) : (rootOf l id).isSome = m.any fun q => decide (q.1 = id) := by
  have hf := h.find (p := fun (q : Int × Nat) => decide (q.1 = id)) (q := fun (q : Int × List Nat) => decide (q.1 = id)) (fun a b q => by rw [q.1])
  unfold rootOf
  rcases hf with ⟨h1, h2⟩ | ⟨a, b, h1, h2, _⟩
  · rw [h1]
    simp only [Option.map_none, Option.isSome_none]
    rw [List.find?_eq_none] at h2
    symm
    rw [List.any_eq_false]
    exact h2
  · rw [h1]
    simp only [Option.map_some, Option.isSome_some]
    symm
    rw [List.any_eq_true]
    exact ⟨b, List.mem_of_find?_eq_some h2, List.find?_some (p := fun (q : Int × List Nat) => decide (q.1 = id)) h2⟩
theorem root_look {n : Nat} {ls : List Root} {u : List Nat} {l : List (Int × Nat)} {s : SS} (h : All2 (fun (q : Int × Nat) (p : Int × List Nat) => q.1 = p.1 ∧ Shw n ls u q.2 p.2) l s.snaps) (hn : s.n = n) (h0 : ls[0]? = some (none, .nil)) (id : Int) : ∃ r : Nat, (rootOf l id).getD 0 = (r : Int) ∧ Shw n ls u r (lookS s id) := by
  have hf := h.find (p := fun (q : Int × Nat) => decide (q.1 = id)) (q := fun (q : Int × List Nat) => decide (q.1 = id)) (fun a b q => by rw [q.1])
  unfold rootOf lookS
  rcases hf with ⟨h1, h2⟩ | ⟨a, b, h1, h2, h3⟩
  · rw [h1, h2]
    exact ⟨0, rfl, by rw [hn]; exact Shw.empty h0⟩
  · rw [h1, h2]
    exact ⟨a.2, rfl, h3.2⟩
set_option maxRecDepth 100000 in
theorem has_ {k : CS} (h : ShX w B U b s k) (id : Int) (hi : I64 id) : Calls Try.prog 32 #[.pointer (some ⟨b, 0, none⟩), .int .i64 id] w fun e w' => e = .returned (.bool (hasS s id)) ∧ w = w' := by
  have c7 := h.cell (j := 7) (u := .map (some k.mb)) rfl
  obtain ⟨x, hrun⟩ := h.r.map.look_ok hi
  have e := has_root h.r.snaps id
  rw [e] at hrun
  have Hh : s.snaps.any (fun q => decide (q.1 = id)) = hasS s id := rfl
  rw [Hh] at hrun
  clear h e Hh
  go_enter Try.func32, Try.ntmps32
  go_wp2
  go_ret
  exact ⟨rfl, rfl⟩
end
end Sha
end Go.Proofs.Ytfcfffilfmbpeaa
