/- Layer 12: New; a call of a script. -/
import Derived.Test.YtfcfffilfmbpeaaShaL
import Derived.Carry
set_option linter.all false
namespace Go.Proofs.Ytfcfffilfmbpeaa
open Go.RowKit Go.Maps
namespace Sha
open Blo (vol fun_ GotN AnsN Dat FitB)

/-- What is new. -/
abbrev neu (w w' : World) : Nat → Prop := fun k => w.heap.size ≤ k ∧ k < w'.heap.size
section
variable (w : World)
set_option maxRecDepth 100000 in
set_option maxHeartbeats 1000000 in
theorem new_ (n : Nat) (hn : n ≤ 1024) : Calls Try.prog 8 #[.int .i64 (n : Int)] w fun e w' => ∃ b, e = .returned (.tuple #[.pointer (some ⟨b, 0, none⟩), .int .i64 0]) ∧ Sh w' w.heap.size (neu w w') b (newS n) ∧ Below w.heap.size w w' := by
  have t1 : ¬ (n : Int) < 0 := by omega
  have t2 : ¬ (1024 : Int) < (n : Int) := by omega
  go_enter Try.func8, Try.ntmps8
  go_wp2_with fail
  refine (bare_ w n hn).mono ?_
  rintro e w2 ⟨f, rfl, hG, hb2⟩
  obtain ⟨w3, hw3⟩ : ∃ w3, w2.alloc (.map #[] 0) = w3 := ⟨_, rfl⟩
  have hm3 := Mp.made w2
  have hb3 : Below w2.heap.size w2 (w2.alloc (.map #[] 0)) := (Below.refl _ _).alloc (Nat.le_refl _) _
  have hs3 : (w2.alloc (.map #[] 0)).heap.size = w2.heap.size + 1 := by simp
  rw [hw3] at hm3 hb3 hs3
  obtain ⟨w4, hw4⟩ : ∃ w4, w3.alloc (.cells #[.pointer none, .int .i64 (n : Int), .pointer (some ⟨f, 0, none⟩), .slice none 0 0, .int .i64 0, .int .i64 0, .slice none 0 0, .map (some w2.heap.size), .slice none 0 0, .bool false] 65) = w4 := ⟨_, rfl⟩
  have hk4 := Blk.new w3 65 #[.pointer none, .int .i64 (n : Int), .pointer (some ⟨f, 0, none⟩), .slice none 0 0, .int .i64 0, .int .i64 0, .slice none 0 0, .map (some w2.heap.size), .slice none 0 0, .bool false] rfl
  have hb4 : Below w3.heap.size w3 (w3.alloc (.cells #[.pointer none, .int .i64 (n : Int), .pointer (some ⟨f, 0, none⟩), .slice none 0 0, .int .i64 0, .int .i64 0, .slice none 0 0, .map (some w2.heap.size), .slice none 0 0, .bool false] 65)) := (Below.refl _ _).alloc (Nat.le_refl _) _
  rw [hw4] at hk4 hb4
  rw [hs3] at hk4
  have hmk : (Instr.makeMap 63 none).run Try.prog w2 = .ok (.map (some w2.heap.size)) (w2.alloc (.map #[] 0)) := run_makeMap _ _
  rw [hw3] at hmk
  have c0 := hk4.cell (j := 0) (u := .pointer none) rfl
  have f0 := hk4.free 0
  go_wp2
  have hk5 := hk4.setCell 0 (.pointer (some ⟨w2.heap.size + 1, 0, none⟩))
  have hg5 := grown_setCell w4 ⟨w2.heap.size + 1, 0, none⟩ (.pointer (some ⟨w2.heap.size + 1, 0, none⟩))
  go_ret2
  obtain ⟨w5, hw5⟩ : ∃ w5, w4.setCell ⟨w2.heap.size + 1, 0, none⟩ (.pointer (some ⟨w2.heap.size + 1, 0, none⟩)) = w5 := ⟨_, rfl⟩
  rw [hw5] at hk5 hg5 ⊢
  have s2 : w.heap.size ≤ w2.heap.size := hb2.size
  have s3 : w2.heap.size + 1 = w3.heap.size := hs3.symm
  have s4 : w3.heap.size ≤ w4.heap.size := hb4.size
  have s5 : w4.heap.size ≤ w5.heap.size := hg5.size
  have hkl := hk5.lt
  have hB5 : Below w.heap.size w w5 := ((below_step (below_step hb2 hb3 (Nat.le_refl _)) hb4 (Nat.le_refl _))).grown hg5 (by omega) fun j hj => by
    injection hj with hj
    have hj' : w2.heap.size + 1 = j := hj
    omega
  have hm5 : Mp w5 w2.heap.size 0 (fun _ => none) := (hm3.below hb4).kept hg5 fun e => by
    injection e with e
    have e' : w2.heap.size = w2.heap.size + 1 := e
    omega
  have hG4 := (hG.below hb3).below hb4
  have hG5 := hG4.grown hg5 hk4 (by simp [Value.ownBlock]) (by decide) (by decide) (by decide)
  refine ⟨(w2.heap.size + 1), rfl, ⟨⟨f, .slice none 0 0, [], [(none, .nil)], 0, 0, .slice none 0 0, [], w2.heap.size, .slice none 0 0, []⟩, ⟨hk5, ?_⟩, by simp [newS]⟩, hB5⟩
  have hz : Shw n [(none, Tr.nil)] [] 0 (List.replicate n 0) := Shw.empty rfl
  exact {
    gm := hG5.sub fun j _ hj => hj.elim
    base := by omega
    ub := ⟨by omega, hkl⟩
    ulow := fun j hj => hj
    spare := by simp
    zero := rfl
    now := hz
    sure := hz
    orow := own_nil _ _ _ _
    oout := fun g hg => by cases hg
    ops := .nil
    rrow := own_nil _ _ _ _
    rout := fun g hg => by cases hg
    map := hm5
    mout := ⟨s2, by show w2.heap.size < w5.heap.size; omega⟩
    snaps := .nil
    ok := ok_new hn }
end

/-! ### a call of a script -/
structure Actn where
  kd : Nat
  op : BOp
  id : Int
  yes : Bool
  keep : List Bool
def actE (s : SS) (a : Actn) : Int := match a.kd % 8 with
  | 0 => doE s a.op
  | 3 => snE s a.id
  | 4 => deE s a.id
  | 5 => roE s a.id
  | _ => 0
def actS (s : SS) (a : Actn) : SS := match a.kd % 8 with
  | 0 => doS s a.op
  | 1 => setS s s.now
  | 2 => { s with frz := a.yes }
  | 3 => snS s a.id
  | 4 => deS s a.id
  | 5 => roS s a.id
  | 6 => crS s a.keep
  | _ => s
/-- A call's cells: its op's numbers, its truths lie elsewhere. -/
abbrev actC (a : Actn) (X : Option Addr) (m c : Nat) (K : Option Addr) (kn kc : Nat) : Array Value := #[.int .u8 (a.kd : Int), .int .i64 a.op.kind, .int .i64 a.op.off, .int .i64 a.op.len, .slice X m c, .int .i64 a.id, .bool a.yes, .slice K kn kc]
/-- A call as it lies in memory. -/
structure Aat (w : World) (a : Actn) (X : Option Addr) (m c : Nat) (K : Option Addr) (kn kc : Nat) : Prop where
  kd : a.kd < 256
  dat : Dat w a.op X m c
  id : I64 a.id
  keep : Rd w K 1 kn (bls a.keep)
  kn : kn ≤ 9223372036854775807
theorem Aat.below {w w' : World} {a : Actn} {X : Option Addr} {m c : Nat} {K : Option Addr} {kn kc : Nat} (h : Aat w a X m c K kn kc) (hb : Below w.heap.size w w') : Aat w' a X m c K kn kc := ⟨h.kd, h.dat.below hb, h.id, h.keep.below hb, h.kn⟩
section
variable (w : World) (B b : Nat) (U : Nat → Prop) (s : SS)
set_option maxRecDepth 100000 in
set_option maxHeartbeats 2000000 in
theorem does_ (h : Sh w B U b s) (a : Actn) (X : Option Addr) (m c : Nat) (K : Option Addr) (kn kc : Nat) (ha : Aat w a X m c K kn kc) (hk : ∀ w', Fr B U w w' → Rd w' K 1 kn (bls a.keep)) :
    Calls Try.prog 11 #[.pointer (some ⟨b, 0, none⟩), .agg (actC a X m c K kn kc)] w fun e w' => e = .returned (.int .i64 (actE s a)) ∧ Nx w w' B U b (actS s a) := by
  have hBw := h.base
  have hb0 : Below w.heap.size w (w.alloc (.cells (actC a X m c K kn kc) 34)) := (Below.refl _ _).alloc (Nat.le_refl _) _
  have hq0 := Blk.new w 34 (actC a X m c K kn kc) rfl
  obtain ⟨w0, hw0⟩ : ∃ w0, w.alloc (.cells (actC a X m c K kn kc) 34) = w0 := ⟨_, rfl⟩
  rw [hw0] at hb0 hq0
  simp only [actC] at hw0 hq0
  have h0 := h.below hb0
  have hF0 : Fr B U w w0 := Fr.ofBelow hb0 hBw
  have ha0 := ha.below hb0
  have c0 := hq0.cell (j := 0) (u := .int .u8 (a.kd : Int)) rfl
  have c1 := hq0.cell (j := 1) (u := .int .i64 a.op.kind) rfl
  have c2 := hq0.cell (j := 2) (u := .int .i64 a.op.off) rfl
  have c3 := hq0.cell (j := 3) (u := .int .i64 a.op.len) rfl
  have c4 := hq0.cell (j := 4) (u := .slice X m c) rfl
  have c5 := hq0.cell (j := 5) (u := .int .i64 a.id) rfl
  have c6 := hq0.cell (j := 6) (u := .bool a.yes) rfl
  have c7 := hq0.cell (j := 7) (u := .slice K kn kc) rfl
  have hkd := ha.kd
  have hmod : ∀ r : Nat, a.kd % 8 = r → ∀ j : Int, ((a.kd : Int) % 8 == j) = decide (j = (r : Int)) := fun r hr j => by
    have e : (a.kd : Int) % 8 = (r : Int) := by omega
    rw [e]
    by_cases q : j = (r : Int)
    · subst q; simp
    · rw [decide_eq_false q]; simpa using fun h => q h.symm
  unfold actE actS
  have hcases : a.kd % 8 = 0 ∨ a.kd % 8 = 1 ∨ a.kd % 8 = 2 ∨ a.kd % 8 = 3 ∨ a.kd % 8 = 4 ∨ a.kd % 8 = 5 ∨ a.kd % 8 = 6 ∨ a.kd % 8 = 7 := by omega
  have hcr := crash_ w0 B b U s h0 K kn kc a.keep (fun w' hf => hk w' (hF0.then hf fun j hj => .inl hj)) ha.kn
  rcases hcases with hr | hr | hr | hr | hr | hr | hr | hr
  · have q := hmod 0 hr
    rw [hr]
    clear hr hmod hkd hk ha hcr
    go_enter Try.func11, Try.ntmps11
    go_wp2_with fail
    refine (do_ w0 B b U s h0 a.op X m c ha0.dat).mono ?_
    rintro e w2 ⟨rfl, hN⟩
    go_wp2
    go_ret
    exact ⟨rfl, Nx.below hb0 hBw hN⟩
  · have q := hmod 1 hr
    rw [hr]
    clear hr hmod hkd hk ha hcr
    go_enter Try.func11, Try.ntmps11
    go_wp2_with fail
    refine (flush_ w0 B b U s h0).mono ?_
    rintro e w2 ⟨rfl, hN⟩
    go_wp2
    go_ret
    exact ⟨rfl, Nx.below hb0 hBw hN⟩
  · have q := hmod 2 hr
    rw [hr]
    clear hr hmod hkd hk ha hcr
    go_enter Try.func11, Try.ntmps11
    go_wp2_with fail
    refine (freeze_ w0 B b U s a.yes h0).mono ?_
    rintro e w2 ⟨rfl, hN⟩
    go_wp2
    go_ret
    exact ⟨rfl, Nx.below hb0 hBw hN⟩
  · have q := hmod 3 hr
    rw [hr]
    clear hr hmod hkd hk ha hcr
    go_enter Try.func11, Try.ntmps11
    go_wp2_with fail
    refine (snap_ w0 B b U s a.id ha0.id h0).mono ?_
    rintro e w2 ⟨rfl, hN⟩
    go_wp2
    go_ret
    exact ⟨rfl, Nx.below hb0 hBw hN⟩
  · have q := hmod 4 hr
    rw [hr]
    clear hr hmod hkd hk ha hcr
    go_enter Try.func11, Try.ntmps11
    go_wp2_with fail
    refine (delete_ w0 B b U s a.id ha0.id h0).mono ?_
    rintro e w2 ⟨rfl, hN⟩
    go_wp2
    go_ret
    exact ⟨rfl, Nx.below hb0 hBw hN⟩
  · have q := hmod 5 hr
    rw [hr]
    clear hr hmod hkd hk ha hcr
    go_enter Try.func11, Try.ntmps11
    go_wp2_with fail
    refine (rollback_ w0 B b U s a.id ha0.id h0).mono ?_
    rintro e w2 ⟨rfl, hN⟩
    go_wp2
    go_ret
    exact ⟨rfl, Nx.below hb0 hBw hN⟩
  · have q := hmod 6 hr
    rw [hr]
    clear hr hmod hkd hk ha
    go_enter Try.func11, Try.ntmps11
    go_wp2_with fail
    refine hcr.mono ?_
    rintro e w2 ⟨rfl, hN⟩
    go_wp2
    go_ret
    exact ⟨rfl, Nx.below hb0 hBw hN⟩
  · have q := hmod 7 hr
    rw [hr]
    clear hr hmod hkd hk ha hcr
    go_enter Try.func11, Try.ntmps11
    go_wp2
    go_ret
    exact ⟨rfl, Nx.below hb0 hBw (Nx.refl h0)⟩
end
end Sha
end Go.Proofs.Ytfcfffilfmbpeaa
