/- Layer 16: the mathematics of ends and of the network between two of them. Nothing of the program is named here. -/
import Derived.Test.YtlmaelbalmjlbaaNetM
set_option linter.all false
namespace Go.Proofs.Ytlmaelbalmjlbaa.Ses
open Net

/-- An end: its node, its peer, its epoch; all loads that were sent; how many of them are acked, how many came; is an ack owed? -/
structure En where
  n : Int
  p : Int
  ep : Int
  l : List (List UInt8)
  a : Nat
  c : Nat
  o : Bool
def nodeP (n p ep : Int) : Prop := 0 ≤ n ∧ n < 16 ∧ 0 ≤ p ∧ p < 16 ∧ n ≠ p ∧ 1 ≤ ep ∧ ep ≤ 2147483648
instance (n p ep : Int) : Decidable (nodeP n p ep) := by unfold nodeP; infer_instance
def newE (n p ep : Int) : Int := if nodeP n p ep then 0 else 1
def newS (n p ep : Int) : En := ⟨n, p, ep, [], 0, 0, false⟩
def sndE (e : En) (d : List UInt8) : Int := if 1200 < d.length then 1 else if e.a + 8 ≤ e.l.length then 15 else 0
def sndS (e : En) (d : List UInt8) : En := if sndE e d = 0 then { e with l := e.l ++ [d] } else e
def loadM (e : En) (i : Nat) : Ms := ⟨e.n, e.p, 1, e.ep, (i : Int) + 1, e.c, e.l.getD i []⟩
def ackM (e : En) : Ms := ⟨e.n, e.p, 2, e.ep, 0, e.c, []⟩
/-- What Step answers, and leaves. -/
def openL (e : En) : List Ms := (List.range (e.l.length - e.a)).map fun j => loadM e (e.a + j)
def stpL (e : En) : List Ms := if e.l.length ≤ e.a then (if e.o then [ackM e] else []) else openL e
def stpS (e : En) : En := { e with o := false }
/-- What Recv answers, and leaves. -/
def wrnE (e : En) (m : Ms) : Int :=
  if m.fr ≠ e.p ∨ m.to ≠ e.n ∨ (m.k ≠ 1 ∧ m.k ≠ 2) then 1
  else if m.ep < e.ep then 14
  else if e.ep < m.ep then 11
  else if m.ac < 0 ∨ (e.l.length : Int) < m.ac ∨ 1200 < m.d.length then 5
  else if (m.k = 1 ∧ m.sq < 1) ∨ (m.k = 2 ∧ (m.sq ≠ 0 ∨ 0 < m.d.length)) then 5 else 0
def isN (e : En) (m : Ms) : Bool := decide (wrnE e m = 0 ∧ m.k = 1 ∧ m.sq - 1 = (e.c : Int))
def rcvD (e : En) (m : Ms) : List UInt8 := if isN e m then m.d else []
def rcvS (e : En) (m : Ms) : En := if wrnE e m = 0 then { e with a := max e.a m.ac.toNat, o := e.o || decide (m.k = 1), c := if isN e m then e.c + 1 else e.c } else e
def begE (e : En) (ep : Int) : Int := if ep ≤ e.ep ∨ 2147483648 < ep then 1 else 0
def begS (e : En) (ep : Int) : En := if begE e ep = 0 then newS e.n e.p ep else e

theorem openL_length (e : En) : (openL e).length = e.l.length - e.a := by simp [openL]
theorem stp_few {e : En} (h : e.l.length ≤ e.a + 8) : (stpL e).length ≤ 8 := by
  unfold stpL
  split
  · split <;> simp
  · rw [openL_length]; omega

/-! ### one side of two -/
/-- What a message of one side is: id its node, id2 its peer, c2 how many loads came there, L what was sent. -/
def Msg (id id2 : Int) (c2 : Nat) (L : List (List UInt8)) (m : Ms) : Prop :=
  m.fr = id ∧ m.to = id2 ∧ m.ep = 9 ∧ 0 ≤ m.ac ∧ m.ac ≤ (c2 : Int) ∧ ((m.k = 1 ∧ ∃ j : Nat, m.sq = (j : Int) + 1 ∧ L[j]? = some m.d) ∨ (m.k = 2 ∧ m.sq = 0 ∧ m.d = []))
theorem Msg.more {id id2 : Int} {c2 c2' : Nat} {L L' : List (List UInt8)} {m : Ms} (h : Msg id id2 c2 L m) (hc : c2 ≤ c2') (hL : ∀ (j : Nat) (d : List UInt8), L[j]? = some d → L'[j]? = some d) : Msg id id2 c2' L' m := by
  obtain ⟨h1, h2, h3, h4, h5, h6⟩ := h
  refine ⟨h1, h2, h3, h4, by omega, h6.imp (fun ⟨k, j, e, hj⟩ => ⟨k, j, e, hL j _ hj⟩) (fun q => q)⟩
/-- One side: its end, how many of its loads came at the other, how many came here, what was sent, its datagrams. -/
structure Sd (k : Nat) (id id2 : Int) (e : En) (c c2 : Nat) (L : List (List UInt8)) (b : List Gr) : Prop where
  n : e.n = id
  p : e.p = id2
  ep : e.ep = 9
  l : e.l = L
  ec : e.c = c2
  ack : e.a ≤ c
  le : c ≤ L.length
  few : L.length ≤ e.a + 8
  short : ∀ d ∈ L, d.length ≤ 1200
  bag : ∃ P, AllGood P b ∧ ∀ m ∈ P, Msg id id2 c2 L m
  len : L.length ≤ k
section
variable {k : Nat} {id id2 : Int} {e : En} {c c2 : Nat} {L : List (List UInt8)} {b : List Gr}
theorem Sd.more (h : Sd k id id2 e c c2 L b) {k' : Nat} (hk : k ≤ k') : Sd k' id id2 e c c2 L b :=
  ⟨h.n, h.p, h.ep, h.l, h.ec, h.ack, h.le, h.few, h.short, h.bag, by have := h.len; omega⟩
theorem Sd.bagTo (h : Sd k id id2 e c c2 L b) {b' : List Gr} (hb : ∀ P, AllGood P b → AllGood P b') : Sd k id id2 e c c2 L b' := by
  obtain ⟨P, h1, h2⟩ := h.bag
  exact ⟨h.n, h.p, h.ep, h.l, h.ec, h.ack, h.le, h.few, h.short, ⟨P, hb P h1, h2⟩, h.len⟩
theorem Sd.send (h : Sd k id id2 e c c2 L b) {d : List UInt8} (hd : sndE e d = 0) : Sd (k + 1) id id2 { e with l := e.l ++ [d] } c c2 (L ++ [d]) b := by
  unfold sndE at hd
  split at hd
  · cases hd
  · split at hd
    · cases hd
    · rename_i h1 h2
      obtain ⟨P, g1, g2⟩ := h.bag
      have hlen := h.len
      rw [h.l] at h2
      refine ⟨h.n, h.p, h.ep, by rw [h.l], h.ec, h.ack, ?_, ?_, ?_, ⟨P, g1, fun m hm => (g2 m hm).more (Nat.le_refl _) (fun j d hj => ?_)⟩, ?_⟩
      · have := h.le; simp; omega
      · simp; omega
      · intro x hx
        rcases List.mem_append.1 hx with hx | hx
        · exact h.short x hx
        · rw [List.mem_singleton.1 hx]; omega
      · have hlt : j < L.length := (List.getElem?_eq_some_iff.1 hj).1
        rw [List.getElem?_append_left hlt]; exact hj
      · simp; omega
/-- What a step sends are messages, and they may be packed. -/
theorem Sd.msgs (h : Sd k id id2 e c c2 L b) (hid : 0 ≤ id ∧ id < 16) (hid2 : 0 ≤ id2 ∧ id2 < 16) (hk : k ≤ 2000) (hc : c2 ≤ 2000) : ∀ m ∈ stpL e, Msg id id2 c2 L m ∧ MayM m := by
  intro m hm
  unfold stpL at hm
  have hn := h.n
  have hp := h.p
  have hep := h.ep
  have hec := h.ec
  have hlen := h.len
  split at hm
  · split at hm
    · rw [List.mem_singleton.1 hm]
      refine ⟨⟨hn, hp, hep, by simp [ackM], by simp [ackM]; omega, .inr ⟨rfl, rfl, rfl⟩⟩, ?_⟩
      refine ⟨?_, ?_, ?_, ?_, ?_, ?_, ?_⟩ <;> simp [ackM, Str.far, hep] <;> omega
    · cases hm
  · obtain ⟨j, hj, rfl⟩ := List.mem_map.1 hm
    have hj := List.mem_range.1 hj
    have hl := h.l
    have hlt : e.a + j < L.length := by rw [hl] at hj; omega
    have hg : (e.l).getD (e.a + j) [] = L[e.a + j] := by rw [hl, List.getD, List.getElem?_eq_getElem hlt]; rfl
    have hs := h.short _ (List.getElem_mem hlt)
    refine ⟨⟨hn, hp, hep, by simp [loadM], by simp [loadM]; omega, .inl ⟨rfl, e.a + j, by simp [loadM], ?_⟩⟩, ?_⟩
    · show L[e.a + j]? = some ((e.l).getD (e.a + j) [])
      rw [hg, List.getElem?_eq_getElem hlt]
    · refine ⟨?_, ?_, ?_, ?_, ?_, ?_, ?_⟩
      · simp [loadM, Str.far]
      · simp [loadM, Str.far, hep]
      · simp [loadM, Str.far]; omega
      · simp [loadM, Str.far]; omega
      · simp [loadM]; omega
      · simp [loadM]; omega
      · show ((e.l).getD (e.a + j) []).length ≤ 1200
        rw [hg]; exact hs
/-- Messages, packed and put one after another. -/
def putAll (b : List Gr) (ms : List Ms) : List Gr := ms.foldl (fun l m => putS l [packL m]) b
theorem good_putAll : ∀ (ms : List Ms) {P : List Ms} {b : List Gr} (_ : AllGood P b) (_ : ∀ m ∈ ms, MayM m), AllGood (P ++ ms) (putAll b ms)
  | [], P, b, h, _ => by simpa [putAll] using h
  | m :: ms, P, b, h, hm => by
    have h1 := good_put h (hm m List.mem_cons_self)
    have h2 := good_putAll ms h1 (fun x hx => hm x (List.mem_cons_of_mem _ hx))
    rw [List.append_assoc] at h2
    show AllGood _ (putAll (putS b [packL m]) ms)
    rw [(pack_yes (hm m List.mem_cons_self)).2]
    exact h2
theorem Sd.step (h : Sd k id id2 e c c2 L b) (hid : 0 ≤ id ∧ id < 16) (hid2 : 0 ≤ id2 ∧ id2 < 16) (hk : k ≤ 2000) (hc : c2 ≤ 2000) : Sd k id id2 (stpS e) c c2 L (putAll b (stpL e)) := by
  have hm := h.msgs hid hid2 hk hc
  obtain ⟨P, g1, g2⟩ := h.bag
  refine ⟨h.n, h.p, h.ep, h.l, h.ec, h.ack, h.le, h.few, h.short, ⟨P ++ stpL e, good_putAll _ g1 (fun m hx => (hm m hx).2), fun m hx => ?_⟩, h.len⟩
  rcases List.mem_append.1 hx with hx | hx
  · exact g2 m hx
  · exact (hm m hx).1
/-- A message of one side comes at the other. -/
theorem wrn_ok {k2 : Nat} {e2 : En} {L2 : List (List UInt8)} {b2 : List Gr} (h : Sd k id id2 e c c2 L b) (h2 : Sd k2 id2 id e2 c2 c L2 b2) {m : Ms} (hm : Msg id id2 c2 L m) : wrnE e2 m = 0 := by
  obtain ⟨m1, m2, m3, m4, m5, m6⟩ := hm
  have q1 := h2.n
  have q2 := h2.p
  have q3 := h2.ep
  have q4 := h2.le
  have q5 := h2.l
  have hd : m.d.length ≤ 1200 := by
    rcases m6 with ⟨_, j, _, hj⟩ | ⟨_, _, hd⟩
    · exact h.short _ (List.mem_of_getElem? hj)
    · rw [hd]; simp
  unfold wrnE
  rw [if_neg (by rw [q1, q2]; rcases m6 with ⟨hk, _⟩ | ⟨hk, _⟩ <;> omega), if_neg (by omega), if_neg (by omega), if_neg (by rw [q5]; omega), if_neg]
  rcases m6 with ⟨hk, j, hj, _⟩ | ⟨hk, hs, hd⟩
  · omega
  · rw [hd]; simp; omega
theorem next_is {k2 : Nat} {e2 : En} {L2 : List (List UInt8)} {b2 : List Gr} (h2 : Sd k2 id2 id e2 c2 c L2 b2) {m : Ms} (hm : Msg id id2 c2 L m) (hn : isN e2 m = true) : L[c]? = some m.d := by
  obtain ⟨m1, m2, m3, m4, m5, m6⟩ := hm
  have hn : wrnE e2 m = 0 ∧ m.k = 1 ∧ m.sq - 1 = (e2.c : Int) := of_decide_eq_true hn
  rw [h2.ec] at hn
  rcases m6 with ⟨hk, j, hj, hL⟩ | ⟨hk, _⟩
  · have : j = c := by omega
    rw [← this]; exact hL
  · omega
/-- How many came at the other side, behind it. -/
def cam (e2 : En) (m : Ms) (c : Nat) : Nat := if isN e2 m then c + 1 else c
theorem Sd.came {k2 : Nat} {e2 : En} {L2 : List (List UInt8)} {b2 : List Gr} (h : Sd k id id2 e c c2 L b) (h2 : Sd k2 id2 id e2 c2 c L2 b2) {m : Ms} (hm : Msg id id2 c2 L m) :
    Sd k id id2 e (cam e2 m c) c2 L b ∧ Sd k2 id2 id (rcvS e2 m) c2 (cam e2 m c) L2 b2 := by
  have hw := wrn_ok h h2 hm
  have hcm : c ≤ cam e2 m c := by unfold cam; split <;> omega
  obtain ⟨P, g1, g2⟩ := h2.bag
  have hack := h.ack
  have hle := h.le
  constructor
  · refine ⟨h.n, h.p, h.ep, h.l, h.ec, by omega, ?_, h.few, h.short, h.bag, h.len⟩
    unfold cam
    split
    · rename_i hn
      have := (List.getElem?_eq_some_iff.1 (next_is h2 hm hn)).1
      omega
    · exact hle
  · have q1 := h2.ack
    have q2 := h2.few
    have q3 := h2.ec
    have m5 := hm.2.2.2.2.1
    unfold rcvS
    rw [if_pos hw]
    refine ⟨h2.n, h2.p, h2.ep, h2.l, ?_, ?_, h2.le, ?_, h2.short, ⟨P, g1, fun x hx => (g2 x hx).more hcm (fun _ _ hj => hj)⟩, h2.len⟩
    · show (if isN e2 m then e2.c + 1 else e2.c) = cam e2 m c
      unfold cam; rw [q3]
    · show max e2.a m.ac.toNat ≤ c2
      omega
    · show L2.length ≤ max e2.a m.ac.toNat + 8
      omega
end
/-! ### two ends and the network -/
def upd {α : Type} (f : Bool → α) (s : Bool) (x : α) : Bool → α := fun t => if t = s then x else f t
@[simp] theorem upd_same {α : Type} (f : Bool → α) (s : Bool) (x : α) : upd f s x s = x := if_pos rfl
@[simp] theorem upd_not {α : Type} (f : Bool → α) (s : Bool) (x : α) : upd f s x (!s) = f (!s) := if_neg (by cases s <;> decide)
@[simp] theorem upd_not' {α : Type} (f : Bool → α) (s : Bool) (x : α) : upd f (!s) x s = f s := if_neg (by cases s <;> decide)
theorem side (s t : Bool) : t = s ∨ t = !s := by cases s <;> cases t <;> decide
/-- Ends, datagrams from each, what each sent, how many of these came; did anything go wrong? -/
structure Wd where
  e : Bool → En
  b : Bool → List Gr
  s : Bool → List (List UInt8)
  c : Bool → Nat
  bad : Bool
def idN (s : Bool) : Int := if s then 4 else 3
def wd0 : Wd := ⟨fun s => newS (idN s) (idN (!s)) 9, fun _ => [], fun _ => [], fun _ => 0, false⟩
def wSend (W : Wd) (s : Bool) (d : List UInt8) : Wd := if sndE (W.e s) d = 0 then { W with e := upd W.e s (sndS (W.e s) d), s := upd W.s s (W.s s ++ [d]) } else W
def wBag (W : Wd) (s : Bool) (b : List Gr) : Wd := { W with b := upd W.b s b }
def wStep (W : Wd) (s : Bool) : Wd := { W with e := upd W.e s (stpS (W.e s)), b := upd W.b s (putAll (W.b s) (stpL (W.e s))), bad := W.bad || (stpL (W.e s)).any fun m => decide (packE m ≠ 0) }
/-- A message that was unpacked, of side s, is handed over. -/
def wRecv (W : Wd) (s : Bool) (m : Ms) : Wd :=
  { W with e := upd W.e (!s) (rcvS (W.e (!s)) m), c := upd W.c s (cam (W.e (!s)) m (W.c s)), bad := W.bad || decide (wrnE (W.e (!s)) m ≠ 0) || (isN (W.e (!s)) m && !(decide ((W.s s)[W.c s]? = some m.d))) }
def wDel (W : Wd) (s : Bool) (i : Int) : Wd :=
  if takE (W.b s) i = 0 ∧ unE (takG (W.b s) i).b = 0 then wRecv (wBag W s (takS (W.b s) i)) s (unV (takG (W.b s) i).b) else wBag W s (takS (W.b s) i)
structure Inv (W : Wd) (k : Nat) : Prop where
  ok : W.bad = false
  sd : ∀ s, Sd k (idN s) (idN (!s)) (W.e s) (W.c s) (W.c (!s)) (W.s s) (W.b s)
theorem id_ok (s : Bool) : 0 ≤ idN s ∧ idN s < 16 := by cases s <;> decide
theorem inv0 : Inv wd0 0 := ⟨rfl, fun s => ⟨rfl, rfl, rfl, rfl, rfl, Nat.le_refl _, Nat.le_refl _, by simp [wd0], (fun d hd => by cases hd), ⟨[], good_nil _, fun m hm => by cases hm⟩, Nat.le_refl _⟩⟩
section
variable {W : Wd} {k : Nat}
theorem Inv.more (h : Inv W k) {k' : Nat} (hk : k ≤ k') : Inv W k' := ⟨h.ok, fun s => (h.sd s).more hk⟩
theorem Inv.two (s : Bool) (h : W.bad = false) (h1 : Sd k (idN s) (idN (!s)) (W.e s) (W.c s) (W.c (!s)) (W.s s) (W.b s)) (h2 : Sd k (idN (!s)) (idN s) (W.e (!s)) (W.c (!s)) (W.c s) (W.s (!s)) (W.b (!s))) : Inv W k :=
  ⟨h, fun t => by
    rcases side s t with rfl | rfl
    · exact h1
    · rw [Bool.not_not]; exact h2⟩
theorem Inv.at2 (h : Inv W k) (s : Bool) : Sd k (idN (!s)) (idN s) (W.e (!s)) (W.c (!s)) (W.c s) (W.s (!s)) (W.b (!s)) := by
  have := h.sd (!s)
  rwa [Bool.not_not] at this
theorem inv_send (h : Inv W k) (s : Bool) (d : List UInt8) : Inv (wSend W s d) (k + 1) := by
  unfold wSend
  split
  · rename_i hd
    refine Inv.two s h.ok ?_ ?_
    · have := (h.sd s).send hd
      simpa [sndS, hd] using this
    · simpa using (h.at2 s).more (Nat.le_succ k)
  · exact h.more (Nat.le_succ k)
theorem inv_bag (h : Inv W k) (s : Bool) {b : List Gr} (hb : ∀ P, AllGood P (W.b s) → AllGood P b) : Inv (wBag W s b) k :=
  Inv.two s h.ok (by simpa [wBag] using (h.sd s).bagTo hb) (by simpa [wBag] using h.at2 s)
theorem Inv.low (h : Inv W k) (s : Bool) : W.c s ≤ k := by
  have h1 := (h.sd s).le
  have h2 := (h.sd s).len
  omega
theorem inv_step (h : Inv W k) (hk : k ≤ 2000) (s : Bool) : Inv (wStep W s) k := by
  have hs := (h.sd s).step (id_ok s) (id_ok _) hk (by have := h.low (!s); omega)
  have hm := (h.sd s).msgs (id_ok s) (id_ok _) hk (by have := h.low (!s); omega)
  refine Inv.two s ?_ (by simpa [wStep] using hs) (by simpa [wStep] using h.at2 s)
  show (W.bad || _) = false
  rw [h.ok, Bool.false_or, List.any_eq_false]
  intro m hx
  rw [(pack_yes (hm m hx).2).1]
  simp
theorem inv_recv (h : Inv W k) (s : Bool) {m : Ms} (hm : Msg (idN s) (idN (!s)) (W.c (!s)) (W.s s) m) : Inv (wRecv W s m) k := by
  obtain ⟨h1, h2⟩ := (h.sd s).came (h.at2 s) hm
  have hw := wrn_ok (h.sd s) (h.at2 s) hm
  refine Inv.two s ?_ (by simpa [wRecv] using h1) (by simpa [wRecv] using h2)
  show (W.bad || _ || _) = false
  rw [h.ok, hw]
  simp only [ne_eq, not_true_eq_false, decide_false, Bool.or_self, Bool.false_or]
  by_cases hn : isN (W.e (!s)) m = true
  · rw [next_is (h.at2 s) hm hn]; simp
  · simp [hn]
theorem inv_del (h : Inv W k) (s : Bool) (i : Int) : Inv (wDel W s i) k := by
  have hb := inv_bag h s (b := takS (W.b s) i) (fun P hP => good_take hP i)
  unfold wDel
  split
  · rename_i hu
    have hi : hasB (W.b s) i = true := by
      by_cases e : hasB (W.b s) i = true
      · exact e
      · have := hu.1; unfold takE at this; rw [if_neg e] at this; cases this
    obtain ⟨P, g1, g2⟩ := (h.sd s).bag
    have hg : Good P (takG (W.b s) i) := by rw [(take_of hi).2.1]; exact g1 _ (get_mem hi)
    refine inv_recv hb s ?_
    cases hs : (takG (W.b s) i).s with
    | true => have := hg.bad hs; omega
    | false => exact g2 _ (hg.un hs).2
  · exact hb
inductive DoA where
  | send (d : List UInt8)
  | step
  | del (i : Int)
  | lose (i : Int)
  | twice (i : Int)
  | turn (i z : Int) (y : UInt8)
def wDo (W : Wd) (s : Bool) : DoA → Wd
  | .send d => wSend W s d
  | .step => wStep W s
  | .del i => wDel W s i
  | .lose i => wBag W s (takS (W.b s) i)
  | .twice i => wBag W s (twiS (W.b s) i)
  | .turn i z y => wBag W s (turS (W.b s) i z y)
theorem inv_do (h : Inv W k) (hk : k < 2000) (s : Bool) (d : DoA) : Inv (wDo W s d) (k + 1) := by
  cases d with
  | send d => exact inv_send h s d
  | step => exact (inv_step h (by omega) s).more (Nat.le_succ k)
  | del i => exact (inv_del h s i).more (Nat.le_succ k)
  | lose i => exact (inv_bag h s (fun P hP => good_take hP i)).more (Nat.le_succ k)
  | twice i => exact (inv_bag h s (fun P hP => good_twice hP i)).more (Nat.le_succ k)
  | turn i z y => exact (inv_bag h s (fun P hP => good_turn hP i z y)).more (Nat.le_succ k)
/-- SessBounds. -/
theorem inv_bounds (h : Inv W k) (s : Bool) : (W.e s).a ≤ (W.e s).l.length ∧ (W.e s).l.length - (W.e s).a ≤ 8 ∧ (W.e (!s)).c ≤ (W.s s).length ∧ (W.s s).length - ((W.e s).l.length - (W.e s).a) ≤ (W.e (!s)).c ∧ (W.e s).ep = 9 := by
  have h1 := h.sd s
  have h2 := h.at2 s
  have q1 := h1.l
  have q2 := h1.ack
  have q3 := h1.le
  have q4 := h1.few
  have q5 := h2.ec
  refine ⟨?_, ?_, ?_, ?_, h1.ep⟩ <;> (rw [q1] at *; omega)
end
end Go.Proofs.Ytlmaelbalmjlbaa.Ses
