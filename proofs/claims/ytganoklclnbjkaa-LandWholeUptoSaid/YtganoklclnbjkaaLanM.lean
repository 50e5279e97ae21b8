/- Layer 11: a berth as what it is, and its steps. Nothing of the program is named here. -/
import Derived.Test.YtganoklclnbjkaaStrQ
import Derived.Test.YtganoklclnbjkaaBloO
set_option linter.all false
namespace Go.Proofs.Ytganoklclnbjkaa
namespace Lan
open Str (Rec mayB opOf)
open Blo (I64 apL apE)

/-- What comes: a snapshot, its volume as it was made up to now, how many records, where the last one ends. -/
structure Arr where
  num : Int
  vol : List Nat
  ct : Nat
  en : Nat
abbrev a0 : Arr := ⟨0, [], 0, 0⟩
/-- A berth. -/
structure BS where
  sh : Int
  ve : Int
  n : Nat
  num : Int
  vol : List Nat
  c : Arr
  y : Arr
structure ArrOk (n : Nat) (a : Arr) : Prop where
  none : a.ct = 0 → a = a0
  len : 0 < a.ct → a.vol.length = n
  most : a.ct ≤ a.en + 1
  en : a.en ≤ n
  num : I64 a.num
theorem ok0 (n : Nat) : ArrOk n a0 := ⟨fun _ => rfl, fun h => (by cases h), Nat.zero_le _, Nat.zero_le _, by unfold I64; decide⟩
structure Ok (s : BS) : Prop where
  most : s.n ≤ 1024
  len : s.vol.length = s.n
  okc : ArrOk s.n s.c
  oky : ArrOk s.n s.y
  sh : I64 s.sh
  ve : I64 s.ve
  num : I64 s.num

def begE (s : BS) (i : Int) (r : Rec) : Int :=
  if i ≠ 0 then 15 else if r.k ≠ 1 then 14 else if r.sh ≠ s.sh ∨ r.len ≠ (s.n : Int) then 1 else if r.ma ≠ s.ve then 13
  else if r.sn = s.num ∨ r.sn = 0 then 10 else if r.ba ≠ s.num ∧ r.ba ≠ 0 then 12 else 0
def begA (s : BS) (r : Rec) : Arr := ⟨r.sn, if r.ba = 0 then List.replicate s.n 0 else s.vol, 1, 0⟩
def doOk (n : Nat) (a : Arr) (r : Rec) : Bool := (opOf r).right (n : Int) && decide ((a.en : Int) ≤ r.off)
def doA (a : Arr) (r : Rec) : Arr := ⟨a.num, apL a.vol [opOf r], a.ct + 1, ((opOf r).from_ + (opOf r).cnt).toNat⟩
def isTail (s : BS) (r : Rec) : Bool := decide (r.k = 4) && decide (r.len = (s.c.ct : Int) - 1)
def proE (s : BS) (i : Int) (r : Rec) : Int :=
  if i < (s.c.ct : Int) then 10 else if (s.c.ct : Int) < i then 15 else if isTail s r = true then 0 else if doOk s.n s.c r = true then 0 else 5
def landS (s : BS) : BS := { s with num := s.c.num, vol := s.c.vol, c := a0, y := a0 }
def proS (s : BS) (r : Rec) : BS := if isTail s r = true then landS s else { s with c := doA s.c r }
/-- Take's answer. -/
def takE (s : BS) (i : Int) (r : Rec) : Int := if i < 0 then 1 else if mayB r = false then 1 else if s.c.ct = 0 then begE s i r else proE s i r
/-- The berth behind Take. -/
def takS (s : BS) (i : Int) (r : Rec) : BS := if takE s i r = 0 then (if s.c.ct = 0 then { s with c := begA s r } else proS s r) else s
theorem takS_no {s : BS} {i : Int} {r : Rec} (h : takE s i r ≠ 0) : takS s i r = s := by unfold takS; rw [if_neg h]
def syncS (s : BS) : BS := { s with y := s.c }
def crashS (s : BS) : BS := { s with c := s.y }
def dropS (s : BS) : BS := { s with c := a0, y := a0 }
theorem begA_ok {s : BS} {r : Rec} (h : Ok s) (hr : I64 r.sn) : ArrOk s.n (begA s r) :=
  ⟨fun e => (by cases e), fun _ => (by
    unfold begA
    dsimp only
    split
    · simp
    · exact h.len), Nat.le_refl _, Nat.zero_le _, hr⟩
theorem doA_ok {n : Nat} {a : Arr} {r : Rec} (h : ArrOk n a) (hn : n ≤ 1024) (hc : 0 < a.ct) (hd : doOk n a r = true) (hm : 1 ≤ (opOf r).cnt) (ho : (opOf r).from_ = r.off) (hl : (apL a.vol [opOf r]).length = n) : ArrOk n (doA a r) := by
  unfold doOk at hd
  rw [Bool.and_eq_true, decide_eq_true_eq] at hd
  obtain ⟨q0, q1, q2, q3⟩ := Str.right_rng hd.1
  have := h.most
  exact ⟨fun e => (by cases e), fun _ => hl, by unfold doA; dsimp only; omega, by unfold doA; dsimp only; omega, h.num⟩
theorem Ok.land {s : BS} (h : Ok s) (hc : 0 < s.c.ct) : Ok (landS s) := ⟨h.most, h.okc.len hc, ok0 _, ok0 _, h.sh, h.ve, h.okc.num⟩
theorem Ok.sync {s : BS} (h : Ok s) : Ok (syncS s) := ⟨h.most, h.len, h.okc, h.okc, h.sh, h.ve, h.num⟩
theorem Ok.crash {s : BS} (h : Ok s) : Ok (crashS s) := ⟨h.most, h.len, h.oky, h.oky, h.sh, h.ve, h.num⟩
theorem Ok.drop {s : BS} (h : Ok s) : Ok (dropS s) := ⟨h.most, h.len, ok0 _, ok0 _, h.sh, h.ve, h.num⟩
def newS (sh ve : Int) (n : Nat) : BS := ⟨sh, ve, n, 0, List.replicate n 0, a0, a0⟩
theorem new_ok {sh ve : Int} {n : Nat} (h1 : I64 sh) (h2 : I64 ve) (hn : n ≤ 1024) : Ok (newS sh ve n) := ⟨hn, by simp [newS], ok0 _, ok0 _, h1, h2, (show I64 0 by unfold I64; decide)⟩
end Lan
end Go.Proofs.Ytganoklclnbjkaa
