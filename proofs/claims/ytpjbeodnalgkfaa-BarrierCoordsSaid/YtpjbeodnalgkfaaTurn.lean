/- General words: what stays while the blocks of one interval are turned and new ones are made; rows in the middle of a block; maps that the program owns. Nothing of the program is named here. -/
import Derived.Test.YtpjbeodnalgkfaaOwn
import Derived.Deep.MidRow
import Derived.Maps.OwnSet
import Derived.Maps.RangeWalk
import Derived.Deep.RegionHeld3
set_option linter.all false
namespace Go.Proofs.Ytpjbeodnalgkfaa
open Go.RowKit

/-- All that was there is as it was, but for the blocks from lo on and below hi. -/
structure Tn (lo hi : Nat) (w w' : World) : Prop where
  os : w'.os = w.os
  tape : w'.tape = w.tape
  output : w'.output = w.output
  size : w.heap.size ≤ w'.heap.size
  block : ∀ k, k < w.heap.size → k < lo ∨ hi ≤ k → w'.heap[k]? = w.heap[k]?
theorem Tn.refl (lo hi : Nat) (w : World) : Tn lo hi w w := ⟨rfl, rfl, rfl, Nat.le_refl _, fun _ _ _ => rfl⟩
theorem Tn.trans {lo hi : Nat} {a b c : World} (h : Tn lo hi a b) (k : Tn lo hi b c) : Tn lo hi a c :=
  ⟨k.os.trans h.os, k.tape.trans h.tape, k.output.trans h.output, Nat.le_trans h.size k.size, fun i hi ho => (k.block i (Nat.lt_of_lt_of_le hi h.size) ho).trans (h.block i hi ho)⟩
theorem Tn.wide {lo hi lo' hi' : Nat} {a b : World} (h : Tn lo hi a b) (h1 : lo' ≤ lo) (h2 : hi ≤ hi') : Tn lo' hi' a b :=
  ⟨h.os, h.tape, h.output, h.size, fun i hi ho => h.block i hi (by omega)⟩
/-- What is turned behind a was new at a. -/
theorem Tn.new {lo hi lo' hi' : Nat} {a b c : World} (h : Tn lo hi a b) (k : Tn lo' hi' b c) (hl : a.heap.size ≤ lo') : Tn lo hi a c :=
  ⟨k.os.trans h.os, k.tape.trans h.tape, k.output.trans h.output, Nat.le_trans h.size k.size, fun i hi ho => (k.block i (Nat.lt_of_lt_of_le hi h.size) (by omega)).trans (h.block i hi ho)⟩
theorem Tn.ofBelow {lo hi B : Nat} {a b : World} (h : Below B a b) (hB : a.heap.size ≤ B) : Tn lo hi a b := ⟨h.os, h.tape, h.output, h.size, fun i hi _ => h.block i (by omega)⟩
theorem Tn.below {lo hi B : Nat} {a b : World} (h : Tn lo hi a b) (hl : B ≤ lo) (hs : B ≤ a.heap.size) : Below B a b := ⟨h.os, h.tape, h.output, h.size, fun i hi => h.block i (by omega) (by omega)⟩
theorem Tn.only {lo hi : Nat} {a b : World} (h : Tn lo hi a b) (hl : hi ≤ lo) : Below a.heap.size a b := ⟨h.os, h.tape, h.output, h.size, fun i hi => h.block i hi (by omega)⟩
theorem Tn.ofGrown {lo hi g : Nat} {a b : World} (h : a.grownBy b (some g)) (h1 : lo ≤ g) (h2 : g < hi) : Tn lo hi a b :=
  ⟨h.os, h.tape, h.output, h.size, fun i hi ho => h.block i hi (by intro e; injection e with e; omega)⟩
theorem Tn.ofGrown0 {lo hi : Nat} {a b : World} (h : a.grownBy b none) : Tn lo hi a b := ⟨h.os, h.tape, h.output, h.size, fun i hi ho => h.block i hi (by simp)⟩
theorem Tn.alloc {lo hi : Nat} (w : World) (o : Obj) : Tn lo hi w (w.alloc o) := Tn.ofBelow ((Below.refl _ _).alloc (Nat.le_refl _) _) (Nat.le_refl _)
theorem Tn.drew {lo hi : Nat} {a b : World} (h : Tn lo hi a.drew b) : Tn lo hi a b := ⟨h.os, h.tape, h.output, h.size, h.block⟩
theorem Tn.drewN {lo hi n : Nat} {a b : World} (h : Tn lo hi (a.drewN n) b) : Tn lo hi a b := ⟨h.os, h.tape, h.output, h.size, h.block⟩
theorem Tn.drewR {lo hi : Nat} {a b : World} (h : Tn lo hi a b) : Tn lo hi a b.drew := ⟨h.os, h.tape, h.output, h.size, h.block⟩
theorem Tn.drewNR {lo hi n : Nat} {a b : World} (h : Tn lo hi a b) : Tn lo hi a (b.drewN n) := ⟨h.os, h.tape, h.output, h.size, h.block⟩
theorem Tn.set {lo hi b : Nat} (w : World) (o : Nat) (u : Value) (h1 : lo ≤ b) (h2 : b < hi) : Tn lo hi w (w.setCell ⟨b, o, none⟩ u) := Tn.ofGrown (grown_setCell w ⟨b, o, none⟩ u) h1 h2
theorem Tn.sets {lo hi b : Nat} (h1 : lo ≤ b) (h2 : b < hi) : ∀ (vs : List Value) (o : Nat) (w : World), Tn lo hi w (w.setCells b o vs)
  | [], _, w => Tn.refl _ _ w
  | v :: r, o, w => (Tn.set w o v h1 h2).trans (Tn.sets h1 h2 r (o + 1) _)
theorem grown_sets (b : Nat) (vs : List Value) (o : Nat) (w : World) : w.grownBy (w.setCells b o vs) (some b) :=
  have h := Tn.sets (lo := b) (hi := b + 1) (Nat.le_refl _) (Nat.lt_succ_self _) vs o w
  ⟨h.os, h.tape, h.output, h.size, fun i hi hne => h.block i hi (by
    have : i ≠ b := fun e => hne (by rw [e])
    omega)⟩
theorem Tn.cell {lo hi : Nat} {w w' : World} (h : Tn lo hi w w') {p : Addr} {u : Value} (hc : w.cell? p = some u) (ho : p.block < lo ∨ hi ≤ p.block) : w'.cell? p = some u := by
  rw [World.cell?_of_block (h.block _ (cell_lt hc) ho)]; exact hc
theorem Tn.blk {lo hi : Nat} {w w' : World} (h : Tn lo hi w w') {b : Nat} {t : TypeId} {cs : Array Value} (hc : Blk w b t cs) (ho : b < lo ∨ hi ≤ b) : Blk w' b t cs := (h.block _ hc.lt ho).trans hc
theorem Tn.rd {lo hi : Nat} {w w' : World} (h : Tn lo hi w w') {A : Option Addr} {sz n : Nat} {xs : List Value} (hr : Rd w A sz n xs) (ho : ∀ a, A = some a → 0 < n → a.block < lo ∨ hi ≤ a.block) : Rd w' A sz n xs :=
  ⟨hr.1, fun j u hu => by
    obtain ⟨b, o, e, hc⟩ := hr.2 j u hu
    have hn : 0 < n := by
      have h1 := (List.getElem?_eq_some_iff.1 hu).1
      have h2 := hr.1
      rcases Nat.eq_zero_or_pos n with h0 | h0
      · subst h0; rw [Nat.zero_mul] at h2; omega
      · exact h0
    exact ⟨b, o, e, h.cell hc (by have := ho _ e hn; simpa using this)⟩⟩
/-- What is read lies below the heap's end. -/
theorem rd_block {w : World} {A : Option Addr} {n : Nat} {xs : List Value} (hr : Rd w A 1 n xs) : ∀ a, A = some a → 0 < n → a.block < w.heap.size := fun a ha hn => by
  obtain ⟨b, o, e, _, hc⟩ := hr.at_ (k := 0) hn
  rw [ha] at e
  injection e with e
  subst e
  exact cell_lt hc
theorem Tn.bs {lo hi : Nat} {w w' : World} (h : Tn lo hi w w') {A : Option Addr} {n : Nat} {xs : List UInt8} (hr : Bs w A n xs) (ho : ∀ a, A = some a → 0 < n → a.block < lo ∨ hi ≤ a.block) : Bs w' A n xs := h.rd hr ho
theorem Tn.range {lo hi : Nat} {w w' : World} (h : Tn lo hi w w') {b o : Nat} {cs : List Value} (hr : w.rangeAt b o cs) (ho : b < lo ∨ hi ≤ b) : w'.rangeAt b o cs := fun j v hv => h.cell (hr j v hv) ho
theorem Tn.there {lo hi : Nat} {w w' : World} (h : Tn lo hi w w') {b o n : Nat} (hr : w.there b o n) (ho : b < lo ∨ hi ≤ b) : w'.there b o n := fun j hj => by
  obtain ⟨h1, h2⟩ := hr j hj
  obtain ⟨u, hu⟩ := Option.isSome_iff_exists.1 h1
  have hb := h.block b (cell_lt hu) ho
  exact ⟨by rw [h.cell hu ho]; rfl, by rw [World.frozen?_of_block (a := ⟨b, o + j, none⟩) hb]; exact h2⟩
theorem Tn.map {lo hi : Nat} {w w' : World} (h : Tn lo hi w w') {H : Type} {P : Program} {k : TypeId} {R : Value → Option (DataW H × List MemPlace)} {b n : Nat} {D : DataW H} (hm : w.ownsMap P k R b n D) (ho : b < lo ∨ hi ≤ b) : w'.ownsMap P k R b n D := by
  have hlt := hm.lt
  obtain ⟨es, clock, hb, r⟩ := hm
  exact ⟨es, clock, (h.block b hlt ho).trans hb, r⟩

/-- Bytes read at an address are a range. -/
theorem range_of_bs {w : World} {b o n : Nat} {xs : List UInt8} (h : Bs w (some ⟨b, o, none⟩) n xs) : w.rangeAt b o (bvs xs) := fun j v hv => by
  obtain ⟨b', o', e, hc⟩ := h.2 j v hv
  injection e with e
  injection e with e1 e2
  subst e1 e2
  exact hc
theorem bs_of_range {w : World} {b o n : Nat} {xs : List UInt8} (h : w.rangeAt b o (bvs xs)) (hn : n = xs.length) : Bs w (some ⟨b, o, none⟩) n xs :=
  ⟨by simp [hn, bvs], fun j u hu => ⟨b, o, rfl, h j u hu⟩⟩
theorem Blk.there {w : World} {b : Nat} {t : TypeId} {cs : Array Value} (h : Blk w b t cs) (o n : Nat) (hn : o + n ≤ cs.size) : w.there b o n := fun j hj => by
  refine ⟨?_, h.free _⟩
  rw [h.cell (j := o + j) (u := cs[o + j]'(by omega)) (Array.getElem?_eq_getElem (by omega))]; rfl
theorem Blk.range {w : World} {b : Nat} {t : TypeId} {cs : Array Value} (h : Blk w b t cs) {o : Nat} {vs : List Value} (hv : ∀ j v, vs[j]? = some v → cs[o + j]? = some v) : w.rangeAt b o vs := fun j v hj => h.cell (hv j v hj)

theorem bvs_inj {xs ys : List UInt8} (h : bvs xs = bvs ys) : xs = ys := by
  have : Function.Injective bv := fun a b e => by
    simp only [bv, Value.int.injEq, true_and] at e
    exact UInt8.toNat.inj (by omega)
  exact (List.map_inj_right (fun a b e => this e)).1 h
/-- The bytes that cells are. -/
def unbv : Value → UInt8
  | .int .u8 n => UInt8.ofNat n.toNat
  | _ => 0
theorem unbv_bv (c : UInt8) : unbv (bv c) = c := by simp [unbv, bv]
theorem map_unbv (xs : List UInt8) : (bvs xs).map unbv = xs := by simp [bvs, Function.comp_def, unbv_bv]

/-- 'make([]T, n)': the new block, whole. -/
theorem wpList_make_blk {P : Program} (w : World) {ops : Array Oper} {rest : List Oper} {o : Oper} {a : Act} {Q : Exit → Act → World → Prop}
    (hg : o.guard = none) (l c : Operand) (t : TypeId) (hop : o.op = Op.makeSlice t l c)
    (e : TypeId) (i : TypeInfo) (z : Value) (size bytes : Nat) (h1 : P.underlying t = some (.slice e)) (h2 : P.info? e = some i) (h3 : i.zero = some z) (h4 : i.size = size) (h5 : i.bytes = bytes)
    (kl kc : IntKind) (L C : Int) (n : Nat) (hl : a.eval l = .int kl L) (hc : a.eval c = .int kc C) (hL : L = (n : Int)) (hC : C = (n : Int)) (b2 : bytes * n ≤ 281474976710656) (b3 : n ≤ 9223372036854775807)
    (hK : ∀ w', Blk w' w.heap.size e (madeCells z.cells (n * size)) → Below w.heap.size w w' → w'.heap.size = w.heap.size + 1 → wpList P ops Q rest (a.put o.dst (.slice (some ⟨w.heap.size, 0, none⟩) n n)) w') :
    wpList P ops Q (o :: rest) a w := by
  refine wpList_plain hg fun K hK' => ?_
  subst h4 h5 hL hC
  have hb' : (i.bytes : Int) * (n : Int) ≤ 281474976710656 := by
    have h : ((i.bytes * n : Nat) : Int) ≤ 281474976710656 := by omega
    rwa [Int.natCast_mul] at h
  have hr := run_make (P := P) w t e i z h1 h2 h3 kl kc n n (by omega) (Int.le_refl _) hb' (by omega)
  simp only [Int.toNat_natCast] at hr
  unfold Oper.wp
  simp [execOp, hop, hl, hc, hr, Result.andThen]
  exact hK' _ _ (hK _ (Blk.new w _ _ rfl) ((Below.refl _ _).alloc (Nat.le_refl _) _) (by simp))

/-- 'var x T', x on the heap. -/
theorem wpList_alloc_blk {P : Program} (w : World) {ops : Array Oper} {rest : List Oper} {o : Oper} {a : Act} {Q : Exit → Act → World → Prop}
    (hg : o.guard = none) (t : TypeId) (hop : o.op = Op.alloc t) (i : TypeInfo) (z : Value) (h2 : P.info? t = some i) (h3 : i.zero = some z)
    (hK : ∀ w', Blk w' w.heap.size t z.cells → Below w.heap.size w w' → w'.heap.size = w.heap.size + 1 → wpList P ops Q rest (a.put o.dst (.pointer (some ⟨w.heap.size, 0, none⟩))) w') :
    wpList P ops Q (o :: rest) a w := by
  refine wpList_plain hg fun K hK' => ?_
  unfold Oper.wp
  simp [execOp, hop, Instr.alloc, zeroValue, typeInfo, h2, h3, newVar, newRow, Result.andThen]
  exact hK' _ _ (hK _ (Blk.new w _ _ rfl) ((Below.refl _ _).alloc (Nat.le_refl _) _) (by simp))

/-- Cells written over, from o on. -/
theorem Blk.sets {b : Nat} {t : TypeId} : ∀ {vs : List Value} {o : Nat} {w : World} {cs : Array Value}, Blk w b t cs → o + vs.length ≤ cs.size → Blk (w.setCells b o vs) b t (cs.toList.take o ++ vs ++ cs.toList.drop (o + vs.length)).toArray
  | [], o, w, cs, h, _ => by simpa [World.setCells] using h
  | v :: r, o, w, cs, h, hl => by
    simp only [List.length_cons] at hl
    have := Blk.sets (vs := r) (o := o + 1) (h.setCell o v) (by simp; omega)
    rw [World.setCells]
    have e : ((cs.setIfInBounds o v).toList.take (o + 1) ++ r ++ (cs.setIfInBounds o v).toList.drop (o + 1 + r.length)) = (cs.toList.take o ++ v :: r ++ cs.toList.drop (o + (v :: r).length)) := by
      have h1 : (cs.setIfInBounds o v).toList.take (o + 1) = cs.toList.take o ++ [v] := by
        rw [Array.toList_setIfInBounds, List.take_set, List.take_succ_eq_append_getElem (by simp; omega), List.set_append_right _ _ (by simp; omega)]
        have hz : o - (cs.toList.take o).length = 0 := by simp; omega
        rw [hz]
        rfl
      have h2 : (cs.setIfInBounds o v).toList.drop (o + 1 + r.length) = cs.toList.drop (o + (v :: r).length) := by
        rw [Array.toList_setIfInBounds, List.drop_set_of_lt (by omega)]
        congr 1
        simp; omega
      rw [h1, h2]
      simp
    rwa [e] at this
/-- 'copy(x, y)': y's bytes onto the beginning of x's own block. -/
theorem run_copy_blk {P : Program} {w : World} {b : Nat} {t : TypeId} {cur : Array Value} (hb : Blk w b t cur) (T e ty : TypeId) (hT : P.underlying T = some (.slice e)) (he : (P.info? e).map (·.size) = some 1) (L M : Nat) (hL : L = cur.size)
    {A : Option Addr} {n c : Nat} {xs : List UInt8} (hx : Bs w A n xs) (hA : A = none → n = 0) (hn : n ≤ L) :
    ∃ z w', (Builtin.copy_ #[T, T] ty #[.slice (some ⟨b, 0, none⟩) L M, .slice A n c]).run P w = .ok z w' ∧ Blk w' b t (bvs xs ++ cur.toList.drop n).toArray ∧ Tn b (b + 1) w w' := by
  have hlen := hx.len
  cases A with
  | none =>
    have h0 := hA rfl
    have hx0 : xs = [] := List.eq_nil_of_length_eq_zero (by omega)
    subst hx0 h0
    exact ⟨_, w, run_copy_none w T T ty e _ _ L M 0 c hT he (by simp), by simpa [bvs] using hb, Tn.refl _ _ _⟩
  | some ad =>
    have hbl : (bvs xs).length = xs.length := bvs_length xs
    refine ⟨_, _, run_copy_cells w T T ty e b 0 L M ad n c (bvs xs) hT he ?_ ?_ ?_ ?_ ?_, ?_, Tn.sets (Nat.le_refl _) (Nat.lt_succ_self _) _ _ _⟩
    · rw [hbl, ← hlen]; exact (Nat.min_eq_left hn).symm
    · intro j v hv
      obtain ⟨b', o', e', hc⟩ := hx.2 j v hv
      injection e' with e'
      subst e'
      rw [add_plain]
      exact hc
    · intro j hj; exact ((hb.there 0 cur.size (by omega)) j (by omega)).1
    · intro j hj; exact hb.free _
    · intro v hv
      obtain ⟨c, _, rfl⟩ := List.mem_map.1 hv
      rfl
    · have := hb.sets (vs := bvs xs) (o := 0) (by omega)
      rw [List.take_zero, List.nil_append, Nat.zero_add, hbl, ← hlen] at this
      exact this
theorem wpList_copy_blk {P : Program} (w : World) {ops : Array Oper} {rest : List Oper} {o : Oper} {a : Act} {Q : Exit → Act → World → Prop} (hg : o.guard = none) (x y : Operand) (T : TypeId) (hop : o.op = Op.call { callee := Callee.builtin Builtin.copy, args := #[x, y], argTypes := #[T, T] })
    (b : Nat) (t : TypeId) (cur : Array Value) (hb : Blk w b t cur) (e : TypeId) (hT : P.underlying T = some (.slice e)) (he : (P.info? e).map (·.size) = some 1) (L M : Nat) (hL : L = cur.size)
    (A : Option Addr) (n c : Nat) (xs : List UInt8) (hx : Bs w A n xs) (hA : A = none → n = 0) (hn : n ≤ L) (hvx : a.eval x = .slice (some ⟨b, 0, none⟩) L M) (hvy : a.eval y = .slice A n c)
    (hK : ∀ z w', Blk w' b t (bvs xs ++ cur.toList.drop n).toArray → Tn b (b + 1) w w' → wpList P ops Q rest (a.put o.dst z) w') :
    wpList P ops Q (o :: rest) a w := by
  refine wpList_plain hg fun K' hK' => ?_
  obtain ⟨z, w', hrun, r1, r2⟩ := run_copy_blk hb T e o.type hT he L M hL (c := c) hx hA hn
  unfold Oper.wp
  simp [execOp, hop, resolve, invoke, builtin, hvx, hvy, hrun, Result.andThen]
  exact hK' _ _ (hK z w' r1 r2)

/-- 'm[k] = v', where a region that draws its order stands at it. -/
theorem upon_update {H : Type} {P : Program} (w : World) {o : Oper} {a : Act} {K : Act → World → Prop} {Q : Exit → Act → World → Prop} {F : Unit → World → Result Next} (t : TypeId)
    (k e : TypeId) (Kd : Go.Maps.Keyed P k) (ht : P.underlying t = some (.map k e)) (R : Value → Option (DataW H × List MemPlace)) (b n : Nat) (D : DataW H)
    (hown : w.ownsMap P k R b n D) (hn : n < maxLen) (ky val : Value) (kl : Lit) (hkey : keyOf P k ky = some kl) (d : DataW H) (ps : List MemPlace) (hval : R val = some (d, ps))
    (hK : ∀ w', w'.ownsMap P k R b (n + 1) (D.put kl d) → w.grownBy w' (some b) → Oper.upon P o a K Q (F () w')) :
    Oper.upon P o a K Q (((Instr.mapUpdate t (.map (some b)) ky val).run P w).andThen F) := by
  obtain ⟨w', hrun, r1, r2⟩ := hown.update Kd ht hn hkey hval
  rw [hrun]
  exact hK w' r1 r2

/-- 'x = y', x a whole block. -/
theorem wpList_store_blk {P : Program} (w : World) {ops : Array Oper} {rest : List Oper} {op : Oper} {a : Act} {Q : Exit → Act → World → Prop} (hgd : op.guard = none) (ty : TypeId) (x y : Operand) (ho : op.op = .store ty x y)
    (b : Nat) (t : TypeId) (cur cells : Array Value) (hb : Blk w b t cur) (hx : a.eval x = .pointer (some ⟨b, 0, none⟩)) (hy : a.eval y = .agg cells) (hs : cells.size = cur.size) (hi : (P.info? ty).map (·.size) = some cells.size) (h1 : cells.all (·.oneCell') = true)
    (h : ∀ w', Blk w' b t cells → Tn b (b + 1) w w' → wpList P ops Q rest (a.put op.dst undef) w') : wpList P ops Q (op :: rest) a w := by
  refine wpList_store_mid hgd ty x y ho b 0 cells hx hy (hb.there 0 _ (by omega)) hi h1 (h _ ?_ (Tn.sets (Nat.le_refl _) (Nat.lt_succ_self _) _ _ _))
  have := hb.sets (vs := cells.toList) (o := 0) (by simp [hs])
  rw [List.take_zero, List.nil_append, Nat.zero_add, List.drop_eq_nil_of_le (by simp [hs]), List.append_nil] at this
  simpa using this

/-- 'make([]T, n)', where a region that draws its order stands at it. -/
theorem upon_make {P : Program} (w : World) {o : Oper} {a : Act} {K : Act → World → Prop} {Q : Exit → Act → World → Prop} {F : Value → World → Result Next} (t : TypeId)
    (e : TypeId) (i : TypeInfo) (z : Value) (size bytes : Nat) (h1 : P.underlying t = some (.slice e)) (h2 : P.info? e = some i) (h3 : i.zero = some z) (h4 : i.size = size) (h5 : i.bytes = bytes)
    (kl kc : IntKind) (L C : Int) (n : Nat) (hL : L = (n : Int)) (hC : C = (n : Int)) (b2 : bytes * n ≤ 281474976710656) (b3 : n ≤ 9223372036854775807)
    (hK : ∀ w', Blk w' w.heap.size e (madeCells z.cells (n * size)) → Below w.heap.size w w' → w'.heap.size = w.heap.size + 1 → Oper.upon P o a K Q (F (.slice (some ⟨w.heap.size, 0, none⟩) n n) w')) :
    Oper.upon P o a K Q (((Instr.makeSlice t (.int kl L) (.int kc C)).run P w).andThen F) := by
  subst h4 h5 hL hC
  have hb' : (i.bytes : Int) * (n : Int) ≤ 281474976710656 := by
    have h : ((i.bytes * n : Nat) : Int) ≤ 281474976710656 := by omega
    rwa [Int.natCast_mul] at h
  have hr := run_make (P := P) w t e i z h1 h2 h3 kl kc n n (by omega) (Int.le_refl _) hb' (by omega)
  simp only [Int.toNat_natCast] at hr
  rw [hr]
  exact hK _ (Blk.new w _ _ rfl) ((Below.refl _ _).alloc (Nat.le_refl _) _) (by simp)

/-- A map has as many entries as it reads. -/
theorem ownsMap_fit {H : Type} {P : Program} {w : World} {k : TypeId} {R : Value → Option (DataW H × List MemPlace)} {b n : Nat} {D : DataW H} (h : w.ownsMap P k R b n D) : w.ownsMap P k R b (Maps.size D) D := by
  obtain ⟨es, clock, hb, F, _, rfl⟩ := h
  exact ⟨es, clock, hb, F, by rw [Maps.size_eq, length_sorted]; simp, rfl⟩
/-- 'clear(m)'. -/
theorem run_clear_map {H : Type} {P : Program} {w : World} {k e t : TypeId} {R : Value → Option (DataW H × List MemPlace)} {b n : Nat} {D : DataW H} (h : w.ownsMap P k R b n D) (ht : P.underlying t = some (.map k e)) (ty : TypeId) :
    ∃ w', (Builtin.clear_ #[t] ty #[.map (some b)]).run P w = .ok (.tuple #[]) w' ∧ w'.ownsMap P k R b 0 (.map []) ∧ w.grownBy w' (some b) := by
  obtain ⟨es, clock, hb, F, _, rfl⟩ := h
  refine ⟨ChangeMaps.setBlock w b (.map #[] clock), ?_, ⟨#[], clock, ChangeMaps.heap_setBlock_same hb _, ⟨by simp, ?_, by simp⟩, Nat.le_refl _, rfl⟩, ⟨rfl, rfl, rfl, by simp [ChangeMaps.setBlock], fun i _ hi => ChangeMaps.heap_setBlock_other hb _ (fun e => hi (by rw [e]))⟩⟩
  · simp [Builtin.clear_, run_underlying ht, MapKept.run_getObj_map hb, MapKept.run_setObj_map _ hb, Result.andThen, ChangeMaps.setBlock]
  · exact Go.MapKept.stamped_empty clock
theorem wpList_clear_map {H : Type} {P : Program} (w : World) {ops : Array Oper} {rest : List Oper} {o : Oper} {a : Act} {Q : Exit → Act → World → Prop} (hg : o.guard = none) (m : Operand) (t : TypeId) (hop : o.op = Op.call { callee := Callee.builtin Builtin.clear, args := #[m], argTypes := #[t] })
    (k e : TypeId) (ht : P.underlying t = some (.map k e)) (R : Value → Option (DataW H × List MemPlace)) (b n : Nat) (D : DataW H) (hm : a.eval m = .map (some b)) (hown : w.ownsMap P k R b n D)
    (hK : ∀ w', w'.ownsMap P k R b 0 (.map []) → w.grownBy w' (some b) → wpList P ops Q rest (a.put o.dst (.tuple #[])) w') :
    wpList P ops Q (o :: rest) a w := by
  refine wpList_plain hg fun K' hK' => ?_
  obtain ⟨w', hrun, r1, r2⟩ := run_clear_map hown ht o.type
  unfold Oper.wp
  simp [execOp, hop, resolve, invoke, builtin, hm, hrun, Result.andThen]
  exact hK' _ _ (hK w' r1 r2)
end Go.Proofs.Ytpjbeodnalgkfaa
