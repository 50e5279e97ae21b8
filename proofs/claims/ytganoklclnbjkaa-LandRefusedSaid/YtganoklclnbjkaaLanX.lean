/- XLanV, XLanX. -/
import Derived.Test.YtganoklclnbjkaaLanU
import Derived.Test.YtganoklclnbjkaaStrX
set_option linter.all false
namespace Go.Proofs.Ytganoklclnbjkaa
open Go.RowKit
namespace Lan
open Str (Rec mayB opOf FitR Rdt Rcl ra oa ra0 rv8 rvs rvs_app rvs_len rvs_at rvs_one rd_new1 k4 k8 rc_blk farB r0 midL recOp tailR bldL bareR Sm)
open Blo (I64 apL apE GotN AnsN)
theorem rdt_grown {w w' : World} {row : Option Nat} {r : Rec} {X : Option Addr} {m c : Nat} (h : Rdt w r X m c) (hg : w.grownBy w' row) (hne : ∀ a, X = some a → 0 < m → some a.block ≠ row) : Rdt w' r X m c := by
  by_cases h0 : 0 < m
  · exact h.grown hg (fun a ha => hne a ha h0)
  · have hm : m = 0 := by omega
    subst hm
    have hd : r.d = [] := List.length_eq_zero_iff.1 h.ns.len.symm
    exact ⟨by rw [hd]; exact ⟨⟨rfl, fun j u hu => by simp [nvs] at hu⟩, by simp⟩, h.nil, h.le, h.cap, h.by8, h.fit⟩
theorem rdt_block {w : World} {r : Rec} {X : Option Addr} {m c : Nat} (h : Rdt w r X m c) : ∀ a, X = some a → 0 < m → a.block < w.heap.size := fun a ha hm => by
  obtain ⟨b, o, e, _, hc, _⟩ := h.ns.at_ hm
  rw [ha] at e
  injection e with e
  subst e
  exact cell_lt hc
/-- v is a row of the call's own, of records, whose numbers lie ahead of it. -/
structure Rw (w : World) (base : Nat) (v : Value) (n : Nat) (L : List (Rec × Value)) : Prop where
  row : w.ownsRow base 29 8 v n (rvs L)
  data : ∀ p ∈ L, ∃ X m c, p.2 = .slice X m c ∧ Rdt w p.1 X m c ∧ (∀ a, X = some a → 0 < m → a.block < base)
theorem Rw.len {w : World} {base : Nat} {v : Value} {n : Nat} {L : List (Rec × Value)} (h : Rw w base v n L) : n = L.length := by have := h.row.1; rw [rvs_len] at this; omega
theorem Rw.keep {w w' : World} {base : Nat} {v : Value} {n : Nat} {L : List (Rec × Value)} (h : Rw w base v n L) (hb : Below w.heap.size w w') : Rw w' base v n L :=
  ⟨own_keep h.row hb, fun p hp => by
    obtain ⟨X, m, c, e, hd, hX⟩ := h.data p hp
    exact ⟨X, m, c, e, hd.below hb, hX⟩⟩
theorem Rw.grown {w w' : World} {base : Nat} {v : Value} {n : Nat} {L : List (Rec × Value)} {g : Nat} (h : Rw w base v n L) (hg : w.grownBy w' (some g)) (hb : base ≤ g) (hv : ∀ k, v.ownBlock = some k → k ≠ g) : Rw w' base v n L :=
  ⟨own_grown h.row hg (fun k hk e => hv k hk (by injection e)), fun p hp => by
    obtain ⟨X, m, c, e, hd, hX⟩ := h.data p hp
    exact ⟨X, m, c, e, rdt_grown hd hg (fun a ha hm e => by have := hX a ha hm; injection e with e; omega), hX⟩⟩
theorem Rw.app {w w' : World} {base : Nat} {v v' : Value} {n m : Nat} {L M : List (Rec × Value)} (h : Rw w base v n L) (hg : w.grownBy w' v.ownBlock) (hr : w'.ownsRow base 29 8 v' (n + m) (rvs L ++ rvs M)) (hM : ∀ p ∈ M, ∃ X m c, p.2 = .slice X m c ∧ Rdt w p.1 X m c ∧ (∀ a, X = some a → 0 < m → a.block < base)) : Rw w' base v' (n + m) (L ++ M) := by
  refine ⟨by rw [rvs_app]; exact hr, fun p hp => ?_⟩
  have g : ∃ X m c, p.2 = .slice X m c ∧ Rdt w p.1 X m c ∧ (∀ a, X = some a → 0 < m → a.block < base) := by
    rcases List.mem_append.1 hp with hp | hp
    · exact h.data p hp
    · exact hM p hp
  obtain ⟨X, m, c, e, hd, hX⟩ := g
  exact ⟨X, m, c, e, rdt_grown hd hg (fun a ha hm e => by have h1 := hX a ha hm; have h2 := (h.row.lt a.block e.symm).1; omega), hX⟩
/-- What is owned is read. -/
theorem Rw.rcl {w : World} {base n c : Nat} {A : Option Addr} {L : List (Rec × Value)} (h : Rw w base (.slice A n c) n L) : Rcl w A n (L.map Prod.fst) := by
  refine ⟨by rw [List.length_map]; exact h.len, fun k hk => ?_⟩
  have hk' : k < L.length := by simpa using hk
  have hmem := List.getElem_mem hk'
  obtain ⟨X, m, c', e, hd, _⟩ := h.data _ hmem
  have hrd := rd_own h.row
  have g : ∀ j (u : Value), (rv8 L[k])[j]? = some u → ∃ b o, A = some ⟨b, o, none⟩ ∧ w.cell? ⟨b, o + k * 8 + j, none⟩ = some u := fun j u hu => by
    have hj : j < 8 := by have := (List.getElem?_eq_some_iff.1 hu).1; simpa using this
    obtain ⟨b, o, e, hc⟩ := hrd.2 (k * 8 + j) u (by rw [rvs_at hk' hj]; exact hu)
    exact ⟨b, o, e, by rw [Nat.add_assoc]; exact hc⟩
  obtain ⟨b, o, eA, _⟩ := g 0 _ rfl
  refine ⟨b, o, X, m, c', eA, fun j u hu => ?_, ?_⟩
  · simp only [List.getElem_map] at hu
    obtain ⟨b', o', e', hc⟩ := g j u (by unfold rv8; rw [e]; exact hu)
    rw [eA] at e'
    injection e' with e'
    injection e' with e1 e2
    subst e1 e2
    exact hc
  · simp only [List.getElem_map]
    exact hd
/-- What Build answers. -/
def RBld (w w' : World) (e : Ending) (h : Rec) (ops : List BOp) : Prop :=
  (∃ er : Int, er ≠ 0 ∧ e = .returned (.tuple #[.slice none 0 0, .int .i64 er]) ∧ Below w.heap.size w w') ∨
  (∃ (B : Option Addr) (m c : Nat) (L : List (Rec × Value)), e = .returned (.tuple #[.slice B m c, .int .i64 0]) ∧ Rw w' w.heap.size (.slice B m c) m L ∧ L.map Prod.fst = bldL h ops ∧ GoodL (bldL h ops) ∧ Below w.heap.size w w')
theorem bare_nil {h : Rec} (hd : h.d = []) : bareR h = h := by cases h; simp only [bareR] at *; subst hd; rfl
theorem recOp_rdt {w : World} {o : BOp} {X : Option Addr} {m c : Nat} (h : Blo.Dat w o X m c) : Rdt w (recOp o) X m c :=
  ⟨h.ns, h.nil, h.le, h.cap, h.by8, (Str.recOp_sm h).fit⟩
end Lan
end Go.Proofs.Ytganoklclnbjkaa

set_option linter.all false
namespace Go.Proofs.Ytganoklclnbjkaa
open Go.RowKit
namespace Lan
open Str (Rec mayB opOf FitR r0 midL recOp tailR bldL bareR)
open Blo (I64 apL apE vol fun_ vol_length)
theorem opOf_rec {o : BOp} (h : o.kind = 1 ∨ o.kind = 2) : opOf (recOp o) = o := by
  cases o
  rcases h with h | h <;> (simp only at h; subst h; rfl)
theorem right_kind {o : BOp} {n : Int} (h : o.right n = true) : o.kind = 1 ∨ o.kind = 2 := by
  rcases (ok_of_right h).1.form with h | h <;> omega
/-- Are these ops of a volume of n blocks, each behind the one ahead? -/
def goOps (n : Int) : Int → List BOp → Prop
  | _, [] => True
  | e, o :: l => o.right n = true ∧ e ≤ o.off ∧ goOps n (o.off + o.cnt) l
theorem goOps_of {n : Int} : ∀ {ops : List BOp} {e : Int}, (∀ r ∈ ops.map recOp, mayB r = true) → risQ n e (ops.map recOp) = true → goOps n e ops
  | [], _, _, _ => trivial
  | o :: l, e, hm, h => by
    rw [List.map_cons, risQ, Bool.and_eq_true, Bool.and_eq_true, decide_eq_true_eq] at h
    obtain ⟨h1, h2, h3⟩ := h
    have hmo := hm (recOp o) (by simp)
    have hk : (recOp o).k = 2 ∨ (recOp o).k = 3 := by
      by_cases k1 : o.kind = 1
      · exact .inl (by unfold recOp; rw [if_pos k1])
      · by_cases k2 : o.kind = 2
        · exact .inr (by unfold recOp; rw [if_neg k1, if_pos k2])
        · exfalso
          have hk0 : (recOp o).k = 0 := by unfold recOp; rw [if_neg k1, if_neg k2]
          rw [may_x5 (by omega) (by omega) (by omega) (by omega)] at hmo
          cases hmo
    have hko : o.kind = 1 ∨ o.kind = 2 := by
      by_cases k1 : o.kind = 1
      · exact .inl k1
      · by_cases k2 : o.kind = 2
        · exact .inr k2
        · exfalso
          have hk0 : (recOp o).k = 0 := by unfold recOp; rw [if_neg k1, if_neg k2]
          omega
    rw [ropOf_is hmo hk, opOf_rec hko] at h1 h2 h3
    have hf := from_ok (ok_of_right h1).1
    rw [hf] at h2 h3
    exact ⟨h1, h2, goOps_of (fun r hr => hm r (List.mem_cons_of_mem _ hr)) h3⟩
theorem goOps_right {n : Int} : ∀ {ops : List BOp} {e : Int}, goOps n e ops → ops.all (·.right n) = true
  | [], _, _ => rfl
  | o :: l, _, h => by rw [List.all_cons, h.1, goOps_right h.2.2]; rfl
/-- What comes, behind some ops' records. -/
def runA (a : Arr) (l : List BOp) : Arr := l.foldl (fun a o => doA a (recOp o)) a
theorem runA_cons (a : Arr) (o : BOp) (l : List BOp) : runA a (o :: l) = runA (doA a (recOp o)) l := rfl
theorem runA_snoc (a : Arr) (o : BOp) (l : List BOp) : runA a (l ++ [o]) = doA (runA a l) (recOp o) := by simp [runA]
theorem runA_ct : ∀ (l : List BOp) (a : Arr), (runA a l).ct = a.ct + l.length
  | [], _ => rfl
  | o :: l, a => by rw [runA_cons, runA_ct l]; show a.ct + 1 + l.length = a.ct + (l.length + 1); omega
theorem runA_num : ∀ (l : List BOp) (a : Arr), (runA a l).num = a.num
  | [], _ => rfl
  | o :: l, a => by rw [runA_cons, runA_num l]; rfl
theorem run_ok {n : Int} : ∀ {ops : List BOp} {a : Arr} {k : Nat} (_ : goOps n (a.en : Int) ops) (hk : k < ops.length), ops[k].right n = true ∧ ((runA a (ops.take k)).en : Int) ≤ ops[k].off
  | o :: l, a, 0, h, _ => ⟨h.1, h.2.1⟩
  | o :: l, a, k + 1, h, hk => by
    have hO := ok_of_right h.1
    have e1 : ((doA a (recOp o)).en : Int) = o.off + o.cnt := by
      unfold doA
      dsimp only
      rw [opOf_rec (right_kind h.1), from_ok hO.1]
      have := hO.1.low
      have := hO.1.some
      omega
    have := run_ok (ops := l) (a := doA a (recOp o)) (k := k) (by rw [e1]; exact h.2.2) (by simpa using hk)
    simpa [runA_cons] using this
theorem run_vol {n : Nat} (hn : n ≤ 1024) : ∀ {ops : List BOp} {a : Arr} (_ : ops.all (·.right (n : Int)) = true) (_ : a.vol.length = n), (runA a ops).vol = vol n (ops.foldl doF (fun_ a.vol))
  | [], a, _, hl => by rw [show (runA a []).vol = a.vol from rfl]; subst hl; exact (Blo.vol_fun a.vol).symm
  | o :: l, a, h, hl => by
    rw [List.all_cons, Bool.and_eq_true] at h
    have hm : manyB (n : Int) = true := by simp [manyB]; omega
    have e : (doA a (recOp o)).vol = vol n (doF (fun_ a.vol) o) := by
      unfold doA
      dsimp only
      rw [opOf_rec (right_kind h.1), Blo.apL_ok (by rw [hl]; exact hm) (by rw [hl]; simp [h.1]), hl]
      rfl
    rw [runA_cons, run_vol hn h.2 (by rw [e, vol_length]), e, List.foldl_cons]
    exact Blo.vol_told fun i hi => by rw [Blo.fun_vol hi]
/-- What comes, behind so many records of a stream. -/
def posA (sn : Int) (v0 : List Nat) (ops : List BOp) : Nat → Arr
  | 0 => a0
  | k + 1 => runA ⟨sn, v0, 1, 0⟩ (ops.take k)
theorem posA_ct {sn : Int} {v0 : List Nat} {ops : List BOp} {k : Nat} (hk : k ≤ ops.length + 1) : (posA sn v0 ops k).ct = k := by
  cases k with
  | zero => rfl
  | succ k => show (runA _ _).ct = k + 1; rw [runA_ct, List.length_take]; show 1 + min k ops.length = k + 1; omega
/-- The record i of a stream. -/
theorem bld_at {hd : Rec} (hb : bareR hd = hd) {ops : List BOp} {i : Nat} {r : Rec} (h : (bldL hd ops)[i]? = some r) : (i = 0 ∧ r = hd) ∨ (∃ j, ∃ hj : j < ops.length, i = j + 1 ∧ r = recOp ops[j]) ∨ (i = ops.length + 1 ∧ r = tailR ops.length) := by
  unfold bldL at h
  rw [hb] at h
  cases i with
  | zero => left; simp at h; exact ⟨rfl, h.symm⟩
  | succ j =>
    right
    rw [List.getElem?_cons_succ] at h
    by_cases hj : j < ops.length
    · left
      rw [List.getElem?_append_left (by simpa using hj), List.getElem?_map, List.getElem?_eq_getElem hj] at h
      simp at h
      exact ⟨j, hj, rfl, h.symm⟩
    · right
      rw [List.getElem?_append_right (by simp; omega)] at h
      simp only [List.length_map] at h
      obtain ⟨h1, h2⟩ := List.getElem?_eq_some_iff.1 h
      simp at h1
      have e : j = ops.length := by omega
      subst e
      simp at h2
      exact ⟨rfl, h2.symm⟩
theorem bld_len (hd : Rec) (ops : List BOp) : (bldL hd ops).length = ops.length + 2 := by simp [bldL]
/-- A stream that may be taken. -/
structure Stm (n : Nat) (hd : Rec) (ops : List BOp) : Prop where
  most : n ≤ 1024
  k : hd.k = 1
  len : hd.len = (n : Int)
  bare : bareR hd = hd
  may : ∀ r ∈ bldL hd ops, mayB r = true
  ops : goOps n 0 ops
theorem stm_of {n : Nat} {hd : Rec} {ops : List BOp} (hn : n ≤ 1024) (hk : hd.k = 1) (hl : hd.len = (n : Int)) (hb : bareR hd = hd) (h : GoodL (bldL hd ops)) : Stm n hd ops := by
  have hm : ∀ r ∈ bldL hd ops, mayB r = true := List.all_eq_true.1 h.may
  have e0 : (bldL hd ops).getD 0 r0 = hd := by unfold bldL; rw [hb]; rfl
  have e1 : midL (bldL hd ops) = ops.map recOp := by
    unfold midL bldL
    simp
  have hr := h.ris
  rw [e0, e1, hl] at hr
  exact ⟨hn, hk, hl, hb, hm, goOps_of (fun r hr => hm r (by unfold bldL; exact List.mem_cons_of_mem _ (List.mem_append_left _ hr))) hr⟩
section
variable {n : Nat} {hd : Rec} {ops : List BOp} {s : BS} {v0 : List Nat} {r : Rec} {i k : Nat}
theorem take_may (h : Stm n hd ops) (hr : (bldL hd ops)[i]? = some r) : takE s (i : Int) r = if s.c.ct = 0 then begE s (i : Int) r else proE s (i : Int) r := by
  unfold takE
  rw [if_neg (by omega), if_neg (by rw [h.may r (List.mem_of_getElem? hr)]; simp)]
/-- A record that is not the next one is refused. -/
theorem take_other (h : Stm n hd ops) (hr : (bldL hd ops)[i]? = some r) (hne : i ≠ s.c.ct) : takE s (i : Int) r ≠ 0 := by
  rw [take_may h hr]
  split
  · rename_i h0
    unfold begE
    rw [if_pos (by omega)]
    decide
  · unfold proE
    by_cases hlt : (i : Int) < (s.c.ct : Int)
    · rw [if_pos hlt]; decide
    · rw [if_neg hlt, if_pos (by omega)]; decide
/-- The one below is told of as taken twice. -/
theorem take_twice (h : Stm n hd ops) (hr : (bldL hd ops)[i]? = some r) (hlt : i < s.c.ct) : takE s (i : Int) r = 10 := by
  rw [take_may h hr, if_neg (by omega)]
  unfold proE
  rw [if_pos (by omega)]
/-- The Head begins. -/
theorem take_head (h : Stm n hd ops) (hn : s.n = n) (hsh : hd.sh = s.sh) (hma : hd.ma = s.ve) (hc : s.c = a0) (h0 : hd.sn ≠ 0) (h1 : hd.sn ≠ s.num) (hv : (hd.ba = 0 ∧ v0 = List.replicate n 0) ∨ (hd.ba = s.num ∧ hd.ba ≠ 0 ∧ v0 = s.vol)) :
    takE s 0 hd = 0 ∧ takS s 0 hd = { s with c := posA hd.sn v0 ops 1 } := by
  have hr : (bldL hd ops)[0]? = some hd := by unfold bldL; rw [h.bare]; rfl
  have hct : s.c.ct = 0 := by rw [hc]
  have hE : takE s 0 hd = 0 := by
    have := take_may (s := s) h hr
    rw [if_pos hct] at this
    rw [show ((0 : Nat) : Int) = 0 from rfl] at this
    rw [this]
    have hl : hd.len = (s.n : Int) := by rw [hn]; exact h.len
    unfold begE
    have hba : ¬ (hd.ba ≠ s.num ∧ hd.ba ≠ 0) := by omega
    simp [h.k, hsh, hl, hma, h0, h1]
    omega
  refine ⟨hE, ?_⟩
  unfold takS
  rw [if_pos hE, if_pos hct]
  have e : begA s hd = posA hd.sn v0 ops 1 := by
    unfold begA
    show _ = (⟨hd.sn, v0, 1, 0⟩ : Arr)
    rcases hv with ⟨h2, rfl⟩ | ⟨h2, h3, rfl⟩
    · rw [if_pos h2, hn]
    · rw [if_neg h3]
  rw [e]
/-- The next op's record is done. -/
theorem take_op (h : Stm n hd ops) (hn : s.n = n) {sn : Int} (hk : k < ops.length) (hc : s.c = posA sn v0 ops (k + 1)) :
    takE s ((k + 1 : Nat) : Int) (recOp ops[k]) = 0 ∧ takS s ((k + 1 : Nat) : Int) (recOp ops[k]) = { s with c := posA sn v0 ops (k + 2) } := by
  have hr : (bldL hd ops)[k + 1]? = some (recOp ops[k]) := by
    unfold bldL
    rw [List.getElem?_cons_succ, List.getElem?_append_left (by simpa using hk), List.getElem?_map, List.getElem?_eq_getElem hk]
    rfl
  have hct : s.c.ct = k + 1 := by rw [hc]; exact posA_ct (by omega)
  obtain ⟨hR, hE⟩ := run_ok (a := ⟨sn, v0, 1, 0⟩) h.ops hk
  have hko := right_kind hR
  have hnt : isTail s (recOp ops[k]) = false := by
    unfold isTail
    have : (recOp ops[k]).k ≠ 4 := by
      unfold recOp
      dsimp only
      split
      · decide
      · split <;> decide
    rw [decide_eq_false this]
    rfl
  have hdo : doOk s.n s.c (recOp ops[k]) = true := by
    unfold doOk
    rw [opOf_rec hko, hn, hR, Bool.true_and, decide_eq_true_eq, hc]
    exact hE
  have hP : proE s ((k + 1 : Nat) : Int) (recOp ops[k]) = 0 := by
    unfold proE
    rw [if_neg (by omega), if_neg (by omega), hnt, hdo]
    rfl
  have hT : takE s ((k + 1 : Nat) : Int) (recOp ops[k]) = 0 := by rw [take_may h hr, if_neg (by omega)]; exact hP
  refine ⟨hT, ?_⟩
  unfold takS proS
  rw [if_pos hT, if_neg (by omega), hnt, if_neg (by simp), hc]
  have e : doA (posA sn v0 ops (k + 1)) (recOp ops[k]) = posA sn v0 ops (k + 2) := by
    show doA (runA ⟨sn, v0, 1, 0⟩ (ops.take k)) _ = runA ⟨sn, v0, 1, 0⟩ (ops.take (k + 1))
    rw [List.take_succ_eq_append_getElem hk, runA_snoc]
  rw [e]
/-- The Tail lands. -/
theorem take_tail (h : Stm n hd ops) (hn : s.n = n) {sn : Int} (hv : v0.length = n) (hc : s.c = posA sn v0 ops (ops.length + 1)) :
    takE s ((ops.length + 1 : Nat) : Int) (tailR ops.length) = 0 ∧ takS s ((ops.length + 1 : Nat) : Int) (tailR ops.length) = { s with num := sn, vol := apL v0 ops, c := a0, y := a0 } := by
  have hr : (bldL hd ops)[ops.length + 1]? = some (tailR ops.length) := by
    unfold bldL
    rw [List.getElem?_cons_succ, List.getElem?_append_right (by simp)]
    simp
  have hct : s.c.ct = ops.length + 1 := by rw [hc]; exact posA_ct (by omega)
  have hT4 : isTail s (tailR ops.length) = true := by
    unfold isTail tailR
    rw [hct]
    simp
  have hP : proE s ((ops.length + 1 : Nat) : Int) (tailR ops.length) = 0 := by
    unfold proE
    rw [if_neg (by omega), if_neg (by omega), hT4]
    rfl
  have hT : takE s ((ops.length + 1 : Nat) : Int) (tailR ops.length) = 0 := by rw [take_may h hr, if_neg (by omega)]; exact hP
  refine ⟨hT, ?_⟩
  have hall := goOps_right h.ops
  have hm : manyB (n : Int) = true := by have := h.most; simp [manyB]; omega
  have e1 : (posA sn v0 ops (ops.length + 1)).vol = apL v0 ops := by
    show (runA ⟨sn, v0, 1, 0⟩ (ops.take ops.length)).vol = _
    rw [List.take_length, run_vol h.most hall hv, Blo.apL_ok (by rw [hv]; exact hm) (by rw [hv]; exact hall), hv]
  have e2 : (posA sn v0 ops (ops.length + 1)).num = sn := by
    show (runA ⟨sn, v0, 1, 0⟩ _).num = sn
    rw [runA_num]
  unfold takS proS landS
  rw [if_pos hT, if_neg (by omega), hT4, if_pos rfl, hc, e1, e2]
end
end Lan
end Go.Proofs.Ytganoklclnbjkaa
