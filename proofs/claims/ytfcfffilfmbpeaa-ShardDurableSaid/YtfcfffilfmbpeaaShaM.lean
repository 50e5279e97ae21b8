/- Layer 12: the mathematics: a shard as a pure state, its steps, and ground: trees over units. -/
import Derived.Test.YtfcfffilfmbpeaaCowAd
import Derived.Test.YtfcfffilfmbpeaaDelF
import Derived.Test.YtfcfffilfmbpeaaBloW
set_option linter.all false
namespace Go.Proofs.Ytfcfffilfmbpeaa
open Go.RowKit
namespace Sha
open Blo (vol fun_ vol_length vol_at vol_congr fun_vol low64)

/-! ### a shard as it is -/
/-- A volume behind an op. -/
def apv (v : List Nat) (o : BOp) : List Nat := vol v.length (doF (fun_ v) o)
theorem apv_length (v : List Nat) (o : BOp) : (apv v o).length = v.length := vol_length _ _
theorem aps_length : ∀ (l : List BOp) (v : List Nat), (l.foldl apv v).length = v.length
  | [], _ => rfl
  | o :: l, v => by rw [List.foldl_cons, aps_length l, apv_length]
structure SS where
  n : Nat
  now : List Nat
  sure : List Nat
  opn : List BOp
  snaps : List (Int × List Nat)
  frz : Bool
def newS (n : Nat) : SS := ⟨n, List.replicate n 0, List.replicate n 0, [], [], false⟩
def hasS (s : SS) (id : Int) : Bool := s.snaps.any fun q => decide (q.1 = id)
def lookS (s : SS) (id : Int) : List Nat := match s.snaps.find? (fun q => decide (q.1 = id)) with | some q => q.2 | none => List.replicate s.n 0
/-- All durable, as this volume. -/
def setS (s : SS) (v : List Nat) : SS := { s with now := v, sure := v, opn := [] }
def doE (s : SS) (o : BOp) : Int := if o.right s.n then (if s.frz then 11 else if s.opn.length = 256 then 6 else 0) else 1
def doS (s : SS) (o : BOp) : SS := if doE s o = 0 then { s with now := apv s.now o, opn := s.opn ++ [o] } else s
def snE (s : SS) (id : Int) : Int := if id < 1 then 1 else if hasS s id then 10 else if s.snaps.length = 32 then 6 else 0
def snS (s : SS) (id : Int) : SS := if snE s id = 0 then { setS s s.now with snaps := s.snaps ++ [(id, s.now)] } else s
def deE (s : SS) (id : Int) : Int := if hasS s id then 0 else 9
def deS (s : SS) (id : Int) : SS := { s with snaps := s.snaps.filter fun q => !decide (q.1 = id) }
def roE (s : SS) (id : Int) : Int := if hasS s id then (if s.frz then 11 else 0) else 9
def roS (s : SS) (id : Int) : SS := if roE s id = 0 then setS s (lookS s id) else s
/-- The open ops that are kept. -/
def kept : List BOp → List Bool → List BOp
  | o :: l, k :: ks => if k then o :: kept l ks else kept l ks
  | _, _ => []
theorem kept_nil (l : List BOp) : kept l [] = [] := by cases l <;> rfl
theorem kept_sub : ∀ (l : List BOp) (ks : List Bool), ∀ o ∈ kept l ks, o ∈ l
  | [], _, o, h => by simp [kept] at h
  | _ :: _, [], o, h => by simp [kept] at h
  | x :: l, k :: ks, o, h => by
    unfold kept at h
    split at h
    · rcases List.mem_cons.1 h with rfl | h
      · simp
      · exact List.mem_cons_of_mem _ (kept_sub l ks o h)
    · exact List.mem_cons_of_mem _ (kept_sub l ks o h)
def crS (s : SS) (ks : List Bool) : SS := { setS s ((kept s.opn ks).foldl apv s.sure) with frz := false }
/-- What is always so. -/
structure Ok (s : SS) : Prop where
  most : s.n ≤ 1024
  now : s.now.length = s.n
  sure : s.sure.length = s.n
  opn : ∀ o ∈ s.opn, o.right s.n = true
  few : s.opn.length ≤ 256
  snaps : ∀ q ∈ s.snaps, q.2.length = s.n ∧ 1 ≤ q.1 ∧ q.1 ≤ 9223372036854775807
  once : (s.snaps.map Prod.fst).Nodup
  few2 : s.snaps.length ≤ 32
theorem ok_new {n : Nat} (h : n ≤ 1024) : Ok (newS n) := ⟨h, by simp [newS], by simp [newS], by simp [newS], by simp [newS], by simp [newS], by simp [newS], by simp [newS]⟩
theorem has_iff {s : SS} {id : Int} : hasS s id = true ↔ ∃ q ∈ s.snaps, q.1 = id := by simp [hasS]
theorem Ok.has_pos {s : SS} (h : Ok s) {id : Int} (hh : hasS s id = true) : 1 ≤ id ∧ id ≤ 9223372036854775807 := by
  obtain ⟨q, hq, rfl⟩ := has_iff.1 hh
  exact (h.snaps q hq).2
theorem look_mem {s : SS} {id : Int} (hh : hasS s id = true) : (id, lookS s id) ∈ s.snaps := by
  unfold lookS
  cases hf : s.snaps.find? (fun q => decide (q.1 = id)) with
  | none =>
    obtain ⟨q, hq, e⟩ := has_iff.1 hh
    have := List.find?_eq_none.1 hf q hq
    simp [e] at this
  | some q =>
    have h1 := List.find?_some hf
    have h2 := List.mem_of_find?_eq_some hf
    simp only [decide_eq_true_eq] at h1
    obtain ⟨a, v⟩ := q
    simp only at h1
    subst h1
    exact h2
theorem look_no {s : SS} {id : Int} (hh : hasS s id = false) : lookS s id = List.replicate s.n 0 := by
  unfold lookS
  rw [List.find?_eq_none.2 fun q hq => by
    intro e
    have : hasS s id = true := has_iff.2 ⟨q, hq, of_decide_eq_true e⟩
    rw [hh] at this; cases this]
theorem Ok.look_length {s : SS} (h : Ok s) (id : Int) : (lookS s id).length = s.n := by
  cases hh : hasS s id with
  | true => exact (h.snaps _ (look_mem hh)).1
  | false => rw [look_no hh]; simp
theorem look_of {l : List (Int × List Nat)} (hn : (l.map Prod.fst).Nodup) {id : Int} {v : List Nat} (hm : (id, v) ∈ l) : l.find? (fun q => decide (q.1 = id)) = some (id, v) := by
  induction l with
  | nil => cases hm
  | cons q l ih =>
    rw [List.map_cons, List.nodup_cons] at hn
    by_cases e : q.1 = id
    · have : q = (id, v) := by
        rcases List.mem_cons.1 hm with rfl | hm
        · rfl
        · exact absurd (List.mem_map.2 ⟨(id, v), hm, e.symm⟩) hn.1
      subst this
      simp
    · rw [List.find?_cons_of_neg (by simpa using e)]
      rcases List.mem_cons.1 hm with rfl | hm
      · exact absurd rfl e
      · exact ih hn.2 hm
theorem Ok.look_of {s : SS} (h : Ok s) {id : Int} {v : List Nat} (hm : (id, v) ∈ s.snaps) : lookS s id = v := by
  unfold lookS
  rw [Sha.look_of h.once hm]
theorem Ok.setS {s : SS} (h : Ok s) {v : List Nat} (hv : v.length = s.n) : Ok (setS s v) := ⟨h.most, hv, hv, by simp [Sha.setS], by simp [Sha.setS], h.snaps, h.once, h.few2⟩
theorem Ok.doS {s : SS} (h : Ok s) (o : BOp) : Ok (doS s o) := by
  unfold Sha.doS
  split
  · rename_i he
    unfold doE at he
    split at he
    · rename_i hr
      refine ⟨h.most, (apv_length _ _).trans h.now, h.sure, fun x hx => ?_, ?_, h.snaps, h.once, h.few2⟩
      · rcases List.mem_append.1 hx with hx | hx
        · exact h.opn x hx
        · rw [List.mem_singleton.1 hx]; exact hr
      · have := h.few
        split at he
        · cases he
        · split at he
          · cases he
          · rename_i h6; simp only [List.length_append, List.length_singleton]; omega
    · cases he
  · exact h
theorem Ok.snS {s : SS} (h : Ok s) {id : Int} (hi : id ≤ 9223372036854775807) : Ok (snS s id) := by
  unfold Sha.snS
  split
  · rename_i he
    unfold snE at he
    split at he
    · cases he
    · split at he
      · cases he
      · rename_i h1 h2
        split at he
        · cases he
        · rename_i h3
          have k := h.setS h.now
          refine ⟨k.most, k.now, k.sure, k.opn, k.few, fun q hq => ?_, ?_, ?_⟩
          · rcases List.mem_append.1 hq with hq | hq
            · exact h.snaps q hq
            · rw [List.mem_singleton.1 hq]; exact ⟨h.now, by omega, hi⟩
          · simp only [List.map_append, List.map_cons, List.map_nil]
            rw [List.nodup_append]
            refine ⟨h.once, by simp, fun a ha b hb => ?_⟩
            rw [List.mem_singleton.1 hb]
            rintro rfl
            obtain ⟨q, hq, e⟩ := List.mem_map.1 ha
            exact h2 (has_iff.2 ⟨q, hq, e⟩)
          · have := h.few2
            simp only [List.length_append, List.length_singleton]
            omega
  · exact h
theorem Ok.deS {s : SS} (h : Ok s) (id : Int) : Ok (deS s id) :=
  ⟨h.most, h.now, h.sure, h.opn, h.few, fun q hq => h.snaps q (List.mem_filter.1 hq).1, (List.Sublist.map _ List.filter_sublist).nodup h.once, Nat.le_trans (List.length_filter_le _ _) h.few2⟩
theorem Ok.roS {s : SS} (h : Ok s) (id : Int) : Ok (roS s id) := by
  unfold Sha.roS
  split
  · exact h.setS (h.look_length id)
  · exact h
theorem Ok.frz {s : SS} (h : Ok s) (b : Bool) : Ok { s with frz := b } := ⟨h.most, h.now, h.sure, h.opn, h.few, h.snaps, h.once, h.few2⟩
theorem Ok.crS {s : SS} (h : Ok s) (ks : List Bool) : Ok (crS s ks) := (h.setS ((aps_length _ _).trans h.sure)).frz false

/-! ### ground: trees over units -/
/-- All of the list's blocks are some of n, and lie at some of m units. -/
def InU (n m : Nat) (l : List Ext) : Prop := ∀ i p r, atL l i = some (p, r) → 0 ≤ i ∧ i < n ∧ 0 ≤ p ∧ p < m
theorem inU_nil (n m : Nat) : InU n m [] := fun i p r h => by cases h
theorem InU.wide {n m m' : Nat} {l : List Ext} (h : InU n m l) (hm : m ≤ m') : InU n m' l := fun i p r hi => by have := h i p r hi; omega
theorem InU.put {n m : Nat} {l : List Ext} (h : InU n m l) (hr : rightB l = true) {x : Ext} (hx : x.may = true) (h1 : x.off + x.len ≤ n) (h2 : x.phys + x.len ≤ m) : InU n m (putL l x) := fun i p r hi => by
  have hm := may_len hx
  rw [(put_is hr hx).2] at hi
  split at hi
  · simp only [Option.some.injEq, Prod.mk.injEq] at hi
    omega
  · exact h i p r hi
theorem InU.cut {n m : Nat} {l : List Ext} (h : InU n m l) (hr : rightB l = true) {o k : Int} (hx : rangeB o k = true) : InU n m (cutL l o k) := fun i p r hi => by
  rw [(cut_is hr hx).2] at hi
  split at hi
  · cases hi
  · exact h i p r hi
theorem at_last : ∀ {l : List Ext} {lo : Int} {x : Ext}, listFrom lo l = true → x ∈ l → ∃ p r, atL l (x.off + x.len - 1) = some (p, r)
  | y :: l, lo, x, h, hx => by
    rw [listFrom_cons] at h
    have hm := may_len h.1
    rcases List.mem_cons.1 hx with rfl | hx
    · exact ⟨_, _, at_head (by omega)⟩
    · obtain ⟨p, r, e⟩ := at_last h.2.2 hx
      have h2 := listFrom_mem h.2.2 x hx
      have h3 := may_len h2.1
      exact ⟨p, r, by rw [at_tail (by omega)]; exact e⟩
theorem InU.ends {n m : Nat} {l : List Ext} (h : InU n m l) (hr : rightB l = true) : endL l ≤ n := by
  unfold endL
  cases hl : l.getLast? with
  | none => simp only; omega
  | some x =>
    simp only
    obtain ⟨p, r, e⟩ := at_last (right_is.1 hr).1 (List.mem_of_getLast? hl)
    have := h _ p r e
    omega
/-- What a list shows does not hang on units behind those at which it lies. -/
theorem InU.show_app {n : Nat} {l : List Ext} {u d : List Nat} (h : InU n u.length l) (i : Int) : showF l (u ++ d) i = showF l u i := by
  unfold showF
  cases ha : atL l i with
  | none => rfl
  | some q =>
    obtain ⟨p, r⟩ := q
    have := h i p r ha
    simp only [showOf, unitOf]
    rw [if_pos (by simp; omega), if_pos (by omega)]
    simp only [List.getD, List.getElem?_append_left (show p.toNat < u.length by omega)]
/-- The ground's trees and units. -/
structure Gd (n : Nat) (ls : List Root) (u : List Nat) : Prop where
  most : n ≤ 1024
  len : u.length ≤ 1024 * ls.length
  few : ls.length ≤ 3000
  least : 0 < ls.length
  in_ : ∀ q ∈ ls, InU n u.length q.2.list
  right : ∀ q ∈ ls, rightB q.2.list = true
  low : ∀ z ∈ u, z < 18446744073709551616
/-- The tree r shows the volume v. -/
def Shw (n : Nat) (ls : List Root) (u : List Nat) (r : Nat) (v : List Nat) : Prop := ∃ q, ls[r]? = some q ∧ v = vol n (showF q.2.list u)
theorem Shw.length {n : Nat} {ls : List Root} {u : List Nat} {r : Nat} {v : List Nat} (h : Shw n ls u r v) : v.length = n := by
  obtain ⟨q, _, rfl⟩ := h; exact vol_length _ _
theorem Shw.lt {n : Nat} {ls : List Root} {u : List Nat} {r : Nat} {v : List Nat} (h : Shw n ls u r v) : r < ls.length := by
  obtain ⟨q, e, _⟩ := h; exact (List.getElem?_eq_some_iff.1 e).1
theorem Shw.units {n : Nat} {ls : List Root} {u : List Nat} {r : Nat} {v : List Nat} (h : Shw n ls u r v) (hg : Gd n ls u) (d : List Nat) : Shw n ls (u ++ d) r v := by
  obtain ⟨q, e, rfl⟩ := h
  refine ⟨q, e, vol_congr fun i _ => ?_⟩
  exact ((hg.in_ q (List.mem_of_getElem? e)).show_app i).symm
theorem Shw.more {n : Nat} {ls : List Root} {u : List Nat} {r : Nat} {v : List Nat} (h : Shw n ls u r v) (q' : Root) : Shw n (ls ++ [q']) u r v := by
  have hlt := h.lt
  obtain ⟨q, e, rfl⟩ := h
  exact ⟨q, by rw [List.getElem?_append_left hlt]; exact e, rfl⟩
theorem Shw.empty {n : Nat} {ls : List Root} {u : List Nat} (h : ls[0]? = some (none, Tr.nil)) : Shw n ls u 0 (List.replicate n 0) := by
  refine ⟨_, h, ?_⟩
  have : vol n (showF ((none, Tr.nil) : Root).2.list u) = vol n fun _ => 0 := vol_congr fun i _ => rfl
  rw [this]
  unfold vol
  rw [List.map_const', List.length_range]
theorem Shw.low {n : Nat} {ls : List Root} {u : List Nat} {r : Nat} {v : List Nat} (h : Shw n ls u r v) (hg : Gd n ls u) : ∀ z ∈ v, z < 18446744073709551616 := by
  obtain ⟨q, e, rfl⟩ := h
  intro z hz
  obtain ⟨i, _, rfl⟩ := List.mem_map.1 hz
  unfold showF
  cases atL q.2.list (i : Int) with
  | none => simp [showOf]
  | some y =>
    obtain ⟨p, r⟩ := y
    simp only [showOf, unitOf]
    split
    · unfold List.getD
      cases hp : u[p.toNat]? with
      | none => simp
      | some z => exact hg.low z (List.mem_of_getElem? hp)
    · omega
theorem Gd.units {n : Nat} {ls : List Root} {u : List Nat} (h : Gd n ls u) (d : List Nat) (hd : ∀ z ∈ d, z < 18446744073709551616) (hl : (u ++ d).length ≤ 1024 * ls.length) : Gd n ls (u ++ d) :=
  ⟨h.most, hl, h.few, h.least, fun q hq => (h.in_ q hq).wide (by simp), h.right, fun z hz => by
    rcases List.mem_append.1 hz with hz | hz
    · exact h.low z hz
    · exact hd z hz⟩
theorem Gd.more {n : Nat} {ls : List Root} {u : List Nat} (h : Gd n ls u) {q : Root} (hf : ls.length < 3000) (h1 : InU n u.length q.2.list) (h2 : rightB q.2.list = true) : Gd n (ls ++ [q]) u :=
  ⟨h.most, by have := h.len; simp only [List.length_append, List.length_singleton]; omega, by simp only [List.length_append, List.length_singleton]; omega, by simp, fun x hx => by
    rcases List.mem_append.1 hx with hx | hx
    · exact h.in_ x hx
    · rw [List.mem_singleton.1 hx]; exact h1, fun x hx => by
    rcases List.mem_append.1 hx with hx | hx
    · exact h.right x hx
    · rw [List.mem_singleton.1 hx]; exact h2, h.low⟩

/-! ### changes: ops whose numbers lie at units -/
structure Chn where
  kind : Int
  x : Ext
/-- The change c is the op o. -/
structure Cho (n : Nat) (u : List Nat) (c : Chn) (o : BOp) : Prop where
  right : o.right n = true
  kind : c.kind = o.kind
  off : c.x.off = o.off
  len : c.x.len = o.cnt
  low : 0 ≤ c.x.phys
  high : c.x.phys ≤ u.length
  birth : c.x.birth = 0
  data : o.kind = 1 → c.x.phys + o.cnt ≤ u.length ∧ ∀ i : Nat, (i : Int) < o.cnt → u.getD (c.x.phys.toNat + i) 0 = o.data.getD i 0
theorem Cho.units {n : Nat} {u : List Nat} {c : Chn} {o : BOp} (h : Cho n u c o) (d : List Nat) : Cho n (u ++ d) c o :=
  ⟨h.right, h.kind, h.off, h.len, h.low, by have := h.high; simp; omega, h.birth, fun hk => by
    obtain ⟨h1, h2⟩ := h.data hk
    have := h.low
    refine ⟨by simp; omega, fun i hi => ?_⟩
    rw [← h2 i hi]
    simp only [List.getD, List.getElem?_append_left (show c.x.phys.toNat + i < u.length by omega)]⟩
theorem Cho.ok {n : Nat} {u : List Nat} {c : Chn} {o : BOp} (h : Cho n u c o) : o.Ok n ∧ n ≤ 1024 := by
  obtain ⟨h1, _, h2⟩ := ok_of_right h.right
  exact ⟨h1, by omega⟩
theorem Cho.kinds {n : Nat} {u : List Nat} {c : Chn} {o : BOp} (h : Cho n u c o) : c.kind = 1 ∨ c.kind = 2 := by
  rcases h.ok.1.form with ⟨q, _⟩ | ⟨q, _⟩
  · exact .inl (h.kind.trans q)
  · exact .inr (h.kind.trans q)
theorem Cho.range {n : Nat} {u : List Nat} {c : Chn} {o : BOp} (h : Cho n u c o) : rangeB c.x.off c.x.len = true ∧ c.x.off + c.x.len ≤ n := by
  obtain ⟨k, hn⟩ := h.ok
  have h1 := k.low
  have h2 := k.high
  have h3 := k.some
  rw [h.off, h.len]
  refine ⟨?_, h2⟩
  simp only [rangeB, Bool.and_eq_true, decide_eq_true_eq]
  omega
theorem Cho.may {n : Nat} {u : List Nat} {c : Chn} {o : BOp} (h : Cho n u c o) (hu : u.length ≤ 100000000) : c.x.may = true := by
  have h1 := h.range
  have h2 := h.low
  have h3 := h.high
  have h4 := h.birth
  obtain ⟨k, hn⟩ := h.ok
  simp only [rangeB, Bool.and_eq_true, decide_eq_true_eq] at h1
  exact may_of (by omega)
theorem Gd.few_units {n : Nat} {ls : List Root} {u : List Nat} (h : Gd n ls u) : u.length ≤ 100000000 := by have := h.len; have := h.few; omega
/-- A tree that was made by a change shows the volume behind the op. -/
theorem shw_do {n : Nat} {ls : List Root} {u : List Nat} {r : Nat} {v : List Nat} {c : Chn} {o : BOp} (hs : Shw n ls u r v) (hg : Gd n ls u) (hf : ls.length < 3000) (h : Cho n u c o) {q q' : Root} (hq : ls[r]? = some q)
    (hl : q'.2.list = if c.kind = 2 then cutL q.2.list c.x.off c.x.len else putL q.2.list c.x) : Shw n (ls ++ [q']) u ls.length (apv v o) ∧ Gd n (ls ++ [q']) u ∧ ∀ k w, Shw n ls u k w → Shw n (ls ++ [q']) u k w := by
  have hm := List.mem_of_getElem? hq
  have hr := hg.right q hm
  have hin := hg.in_ q hm
  obtain ⟨q0, e0, rfl⟩ := hs
  rw [hq] at e0
  injection e0 with e0
  subst e0
  obtain ⟨hrg, hrn⟩ := h.range
  have hmay := h.may hg.few_units
  obtain ⟨hok, hn⟩ := h.ok
  have hlow := hok.low
  have hhigh := hok.high
  refine ⟨⟨q', by simp, ?_⟩, ?_, fun k w hk => hk.more q'⟩
  · unfold apv
    rw [vol_length]
    refine vol_congr fun i hi => ?_
    unfold doF
    rw [fun_vol hi]
    unfold showF
    rw [hl]
    rcases h.kinds with hk | hk
    · have hk2 : ¬ c.kind = 2 := by omega
      have ho : o.kind = 1 := by rw [← h.kind]; exact hk
      obtain ⟨d1, d2⟩ := h.data ho
      rw [if_neg hk2, (put_is hr hmay).2]
      by_cases ha : o.at_ (i : Int) = true
      · rw [if_pos ha]
        have hb := BOp.at_iff.1 ha
        rw [if_pos (by rw [h.off, h.len]; exact hb)]
        have hp := h.low
        simp only [showOf, unitOf]
        have hoff := h.off
        rw [if_pos (by omega)]
        unfold BOp.val
        rw [if_pos ho]
        have := d2 ((i : Int) - o.off).toNat (by omega)
        rw [← this]
        congr 1
        omega
      · rw [if_neg ha, if_neg (by rw [h.off, h.len]; exact fun q => ha (BOp.at_iff.2 q))]
    · have ho : o.kind = 2 := by rw [← h.kind]; exact hk
      rw [if_pos hk, (cut_is hr hrg).2]
      by_cases ha : o.at_ (i : Int) = true
      · rw [if_pos ha]
        have hb := BOp.at_iff.1 ha
        rw [if_pos (by rw [h.off, h.len]; exact hb)]
        unfold BOp.val
        rw [if_neg (by omega)]
        rfl
      · rw [if_neg ha, if_neg (by rw [h.off, h.len]; exact fun q => ha (BOp.at_iff.2 q))]
  · refine hg.more hf ?_ ?_
    · rw [hl]
      rcases h.kinds with hk | hk
      · rw [if_neg (by omega)]
        have ho : o.kind = 1 := by rw [← h.kind]; exact hk
        obtain ⟨d1, -⟩ := h.data ho
        exact hin.put hr hmay hrn (by rw [h.len]; exact d1)
      · rw [if_pos hk]
        exact hin.cut hr hrg
    · rw [hl]
      split
      · exact (cut_is hr hrg).1
      · exact (put_is hr hmay).1
/-- A tree that was made of the empty one by all of a volume shows it. -/
theorem shw_plant {n : Nat} {ls : List Root} {u v : List Nat} (hg : Gd n ls (u ++ v)) (hf : ls.length < 3000) (hv : v.length = n) (hn : 0 < n) {q' : Root} (hl : q'.2.list = putL [] ⟨0, n, u.length, 0⟩) :
    Shw n (ls ++ [q']) (u ++ v) ls.length v ∧ Gd n (ls ++ [q']) (u ++ v) ∧ ∀ k w, Shw n ls (u ++ v) k w → Shw n (ls ++ [q']) (u ++ v) k w := by
  have hmost := hg.most
  have hfu := hg.few_units
  rw [List.length_append] at hfu
  have hmay : (⟨0, n, u.length, 0⟩ : Ext).may = true := may_of (by simp only; omega)
  have hr : rightB ([] : List Ext) = true := rfl
  refine ⟨⟨q', by simp, ?_⟩, hg.more hf ?_ ?_, fun k w hk => hk.more q'⟩
  · rw [hl]
    conv => lhs; rw [← Blo.vol_fun v, hv]
    refine vol_congr fun i hi => ?_
    unfold showF
    rw [(put_is hr hmay).2, if_pos (by simp only; omega)]
    simp only [showOf, unitOf]
    rw [if_pos (by simp; omega)]
    unfold fun_ List.getD
    rw [List.getElem?_append_right (by omega)]
    congr 2
    omega
  · rw [hl]
    exact (inU_nil _ _).put hr hmay (by simp only; omega) (by simp only [List.length_append]; omega)
  · rw [hl]; exact (put_is hr hmay).1
end Sha
end Go.Proofs.Ytfcfffilfmbpeaa
