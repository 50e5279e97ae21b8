/- Layer 16: the mathematics of fair rounds (SessAll). Nothing of the program is named here. -/
import Derived.Test.YtlmaelbalmjlbaaSesM
set_option linter.all false
namespace Go.Proofs.Ytlmaelbalmjlbaa.Ses
open Net

def drn (s : Bool) : Nat → Wd → Wd
  | 0, W => W
  | n + 1, W => drn s n (wDel W s 0)
def drain (W : Wd) (s : Bool) : Wd := drn s (W.b s).length W
def wFair (W : Wd) (s : Bool) : Wd := drain (wStep (drain W s) s) s
/-- What one side's datagrams may change. -/
structure Dl (s : Bool) (W W' : Wd) : Prop where
  es : W'.e s = W.e s
  ss : W'.s = W.s
  bo : W'.b (!s) = W.b (!s)
  co : W'.c (!s) = W.c (!s)
  cs : W.c s ≤ W'.c s
  a : (W.e (!s)).a ≤ (W'.e (!s)).a
theorem Dl.refl (s : Bool) (W : Wd) : Dl s W W := ⟨rfl, rfl, rfl, rfl, Nat.le_refl _, Nat.le_refl _⟩
theorem Dl.trans {s : Bool} {W W' W'' : Wd} (h : Dl s W W') (k : Dl s W' W'') : Dl s W W'' :=
  ⟨k.es.trans h.es, k.ss.trans h.ss, k.bo.trans h.bo, k.co.trans h.co, Nat.le_trans h.cs k.cs, Nat.le_trans h.a k.a⟩
theorem dl_recv (W : Wd) (s : Bool) (m : Ms) : Dl s W (wRecv W s m) :=
  ⟨by simp [wRecv], rfl, rfl, by simp [wRecv], by simp [wRecv, cam]; split <;> omega, by simp only [wRecv, upd_same, rcvS]; split <;> simp; omega⟩
theorem dl_bag (W : Wd) (s : Bool) (b : List Gr) : Dl s W (wBag W s b) := ⟨rfl, rfl, by simp [wBag], rfl, Nat.le_refl _, Nat.le_refl _⟩
theorem dl_del (W : Wd) (s : Bool) (i : Int) : Dl s W (wDel W s i) := by
  unfold wDel
  split
  · exact (dl_bag _ _ _).trans (dl_recv _ _ _)
  · exact dl_bag _ _ _
theorem dl_drn (s : Bool) : ∀ (n : Nat) (W : Wd), Dl s W (drn s n W)
  | 0, W => Dl.refl s W
  | n + 1, W => (dl_del W s 0).trans (dl_drn s n _)
theorem del_bag (W : Wd) (s : Bool) (i : Int) : (wDel W s i).b s = takS (W.b s) i := by
  unfold wDel
  split <;> simp [wRecv, wBag]
theorem tak_zero : ∀ l : List Gr, takS l 0 = l.tail
  | [] => rfl
  | g :: l => by unfold takS; rw [if_pos (by simp [hasB])]; rfl
theorem drn_bag (s : Bool) : ∀ (n : Nat) (W : Wd), (drn s n W).b s = (W.b s).drop n
  | 0, W => rfl
  | n + 1, W => by
    rw [drn, drn_bag s n, del_bag, tak_zero, List.drop_tail]
theorem drain_bag (W : Wd) (s : Bool) : (drain W s).b s = [] := by unfold drain; rw [drn_bag, List.drop_length]
theorem inv_drn {k : Nat} (s : Bool) : ∀ (n : Nat) (W : Wd), Inv W k → Inv (drn s n W) k
  | 0, W, h => h
  | n + 1, W, h => inv_drn s n _ (inv_del h s 0)
theorem inv_fair {W : Wd} {k : Nat} (h : Inv W k) (hk : k ≤ 2000) (s : Bool) : Inv (wFair W s) k := inv_drn s _ _ (inv_step (inv_drn s _ _ h) hk s)
/-! ### messages, one after another -/
def grm (m : Ms) : Gr := ⟨msgB m, false⟩
theorem del_hd {W : Wd} {s : Bool} {m : Ms} {t : List Gr} (h : W.b s = grm m :: t) (hm : MayM m) : wDel W s 0 = wRecv (wBag W s t) s m := by
  have hh : hasB (W.b s) 0 = true := by rw [h]; simp [hasB]
  obtain ⟨t1, t2, t3⟩ := take_of hh
  have hg : getG (W.b s) 0 = grm m := by rw [h]; rfl
  obtain ⟨u1, u2⟩ := un_pack hm
  unfold wDel
  rw [t1, t2, hg, tak_zero, h, if_pos ⟨rfl, u1⟩]
  show wRecv _ s (unV (msgB m)) = _
  rw [u2]
  rfl
section
variable {k : Nat} {s : Bool}
theorem one_hd {W : Wd} {m : Ms} {t : List Gr} (hI : Inv W k) (h : W.b s = grm m :: t) (hm : MayM m) (hM : Msg (idN s) (idN (!s)) (W.c (!s)) (W.s s) m) :
    m.ac.toNat ≤ ((wDel W s 0).e (!s)).a ∧ ((wDel W s 0).e (!s)).o = ((W.e (!s)).o || decide (m.k = 1)) ∧ (wDel W s 0).c s = cam (W.e (!s)) m (W.c s) ∧ (wDel W s 0).b s = t := by
  have hw := wrn_ok (hI.sd s) (hI.at2 s) hM
  rw [del_hd h hm]
  refine ⟨?_, ?_, ?_, ?_⟩
  · simp only [wRecv, wBag, upd_same]
    rw [rcvS, if_pos hw]
    show m.ac.toNat ≤ max (W.e (!s)).a m.ac.toNat
    omega
  · simp only [wRecv, wBag, upd_same]
    rw [rcvS, if_pos hw]
  · simp [wRecv, wBag]
  · simp [wRecv, wBag]
theorem drn_msgs : ∀ (ms : List Ms) (W : Wd), Inv W k → W.b s = ms.map grm → (∀ m ∈ ms, MayM m ∧ Msg (idN s) (idN (!s)) (W.c (!s)) (W.s s) m) →
    (∀ m ∈ ms, m.ac.toNat ≤ ((drn s ms.length W).e (!s)).a) ∧ ((drn s ms.length W).e (!s)).o = ((W.e (!s)).o || ms.any fun m => decide (m.k = 1))
  | [], W, _, _, _ => ⟨fun m hm => (by cases hm), by simp [drn]⟩
  | m :: ms, W, hI, h, hM => by
    obtain ⟨h1, h2⟩ := hM m List.mem_cons_self
    obtain ⟨q1, q2, q3, q4⟩ := one_hd hI h h1 h2
    have hd := dl_del W s 0
    obtain ⟨r1, r2⟩ := drn_msgs ms _ (inv_del hI s 0) q4 (fun x hx => by rw [hd.co, hd.ss]; exact hM x (List.mem_cons_of_mem _ hx))
    refine ⟨fun x hx => ?_, ?_⟩
    · rcases List.mem_cons.1 hx with rfl | hx
      · exact Nat.le_trans q1 (dl_drn s ms.length (wDel W s 0)).a
      · exact r1 x hx
    · show ((drn s ms.length (wDel W s 0)).e (!s)).o = _
      rw [r2, q2, List.any_cons, Bool.or_assoc]
theorem drn_loads (e : En) : ∀ (n i : Nat) (W : Wd), Inv W k → W.b s = ((List.range' i n).map (loadM e)).map grm → (∀ m ∈ (List.range' i n).map (loadM e), MayM m ∧ Msg (idN s) (idN (!s)) (W.c (!s)) (W.s s) m) → i ≤ W.c s → i + n ≤ (drn s n W).c s
  | 0, i, W, _, _, _, hi => hi
  | n + 1, i, W, hI, h, hM, hi => by
    rw [List.range'_succ, List.map_cons] at hM
    rw [List.range'_succ, List.map_cons, List.map_cons] at h
    obtain ⟨h1, h2⟩ := hM _ List.mem_cons_self
    obtain ⟨q1, q2, q3, q4⟩ := one_hd hI h h1 h2
    have hd := dl_del W s 0
    have hw := wrn_ok (hI.sd s) (hI.at2 s) h2
    have hec := (hI.at2 s).ec
    have hi2 : i + 1 ≤ (wDel W s 0).c s := by
      rw [q3]
      unfold cam isN
      by_cases hc : W.c s = i
      · rw [if_pos (decide_eq_true ⟨hw, rfl, by rw [hec, hc]; simp [loadM]⟩)]; omega
      · split <;> omega
    have := drn_loads e n (i + 1) _ (inv_del hI s 0) q4 (fun x hx => by rw [hd.co, hd.ss]; exact hM x (List.mem_cons_of_mem _ hx)) hi2
    show i + (n + 1) ≤ (drn s n (wDel W s 0)).c s
    omega
theorem putAll_room : ∀ (ms : List Ms) (b : List Gr), (∀ m ∈ ms, MayM m) → b.length + ms.length ≤ 256 → putAll b ms = b ++ ms.map grm
  | [], b, _, _ => by simp [putAll]
  | m :: ms, b, hm, hl => by
    have h1 : putS b [packL m] = b ++ [grm m] := by
      rw [(pack_yes (hm m List.mem_cons_self)).2]
      unfold putS
      rw [List.take_of_length_le (by simp at hl ⊢; omega)]
      rfl
    show putAll (putS b [packL m]) ms = _
    rw [h1, putAll_room ms _ (fun x hx => hm x (List.mem_cons_of_mem _ hx)) (by simp at hl ⊢; omega), List.append_assoc]
    rfl
theorem openL_range (e : En) : openL e = (List.range' e.a (e.l.length - e.a)).map (loadM e) := by
  rw [openL, List.range'_eq_map_range, List.map_map]
  rfl
/-- What one side's turn in a fair round does. -/
structure Fd (s : Bool) (W W' : Wd) : Prop where
  b : W'.b s = []
  bo : W'.b (!s) = W.b (!s)
  ss : W'.s = W.s
  o : (W'.e s).o = false
  es : (W'.e s).a = (W.e s).a
  co : W'.c (!s) = W.c (!s)
  c : W'.c s = (W.s s).length
  a : (W.e (!s)).a ≤ (W'.e (!s)).a
  sent : (W.e s).a < (W.s s).length ∨ (W.e s).o = true → W.c (!s) ≤ (W'.e (!s)).a
  load : (W.e s).a < (W.s s).length → (W'.e (!s)).o = true
  still : W.b s = [] → (W.s s).length ≤ (W.e s).a → (W'.e (!s)).o = (W.e (!s)).o
theorem fair_side {W : Wd} (hI : Inv W k) (hk : k ≤ 2000) (s : Bool) : Fd s W (wFair W s) := by
  have d1 := dl_drn s (W.b s).length W
  have i1 := inv_drn s (W.b s).length W hI
  have b1 := drain_bag W s
  obtain ⟨V, hV⟩ : ∃ V, drn s (W.b s).length W = V := ⟨_, rfl⟩
  have hV2 : drain W s = V := hV
  rw [hV] at d1 i1
  rw [hV2] at b1
  have i2 := inv_step i1 hk s
  have hms := (i1.sd s).msgs (id_ok s) (id_ok _) hk (by have := i1.low (!s); omega)
  have hfew := (i1.sd s).few
  have hle := (i1.sd s).le
  have hack := (i1.sd s).ack
  have hl := (i1.sd s).l
  have hec := (i1.sd s).ec
  have hst : (stpL (V.e s)).length ≤ 8 := stp_few (by rw [hl]; exact hfew)
  have hb2 : (wStep V s).b s = (stpL (V.e s)).map grm := by
    show upd V.b s (putAll (V.b s) (stpL (V.e s))) s = _
    rw [upd_same, b1, putAll_room _ _ (fun m hm => (hms m hm).2) (by simp; omega), List.nil_append]
  have hm2 : ∀ m ∈ stpL (V.e s), MayM m ∧ Msg (idN s) (idN (!s)) ((wStep V s).c (!s)) ((wStep V s).s s) m := fun m hm => ⟨(hms m hm).2, (hms m hm).1⟩
  obtain ⟨r1, r2⟩ := drn_msgs (stpL (V.e s)) (wStep V s) i2 hb2 hm2
  have d3 := dl_drn s (stpL (V.e s)).length (wStep V s)
  have i3 := inv_drn s (stpL (V.e s)).length (wStep V s) i2
  have hF : wFair W s = drn s (stpL (V.e s)).length (wStep V s) := by
    unfold wFair
    rw [hV2, drain, hb2, List.length_map]
  rw [hF]
  have e2 : (wStep V s).e (!s) = V.e (!s) := by simp [wStep]
  have e3 : (wStep V s).e s = stpS (V.e s) := by simp [wStep]
  have lss : V.s = W.s := d1.ss
  have les : V.e s = W.e s := d1.es
  have lco : V.c (!s) = W.c (!s) := d1.co
  rw [les] at hl hack hec hfew
  rw [lss] at hl hle hfew
  have hacs : ∀ m ∈ stpL (V.e s), m.ac = ((W.c (!s) : Nat) : Int) := by
    intro m hm
    rw [les] at hm
    unfold stpL at hm
    split at hm
    · split at hm
      · rw [List.mem_singleton.1 hm]; show ((W.e s).c : Int) = _; rw [hec, lco]
      · cases hm
    · obtain ⟨j, _, rfl⟩ := List.mem_map.1 hm
      show ((W.e s).c : Int) = _; rw [hec, lco]
  have hle3 := (i3.sd s).le
  have hack3 := (i3.sd s).ack
  refine ⟨?_, ?_, ?_, ?_, ?_, ?_, ?_, ?_, ?_, ?_, ?_⟩
  · rw [drn_bag, hb2, ← List.length_map (f := grm), List.drop_length]
  · rw [d3.bo]; simp only [wStep, upd_not]; exact d1.bo
  · rw [d3.ss]; exact d1.ss
  · rw [d3.es, e3]; rfl
  · rw [d3.es, e3, les]; rfl
  · rw [d3.co]; exact d1.co
  · rw [d3.ss] at hle3
    have hle4 : ((wStep V s).s s).length = (W.s s).length := by show (V.s s).length = _; rw [lss]
    rw [hle4] at hle3
    have hge : (W.s s).length ≤ (drn s (stpL (V.e s)).length (wStep V s)).c s := by
      by_cases ho : (W.s s).length ≤ (W.e s).a
      · have q := d3.cs
        have q2 : V.c s = (wStep V s).c s := rfl
        omega
      · have hst2 : stpL (V.e s) = (List.range' (W.e s).a ((W.s s).length - (W.e s).a)).map (loadM (W.e s)) := by
          rw [les, stpL, if_neg (by rw [hl]; exact ho), openL_range, hl]
        have hlen : (stpL (V.e s)).length = (W.s s).length - (W.e s).a := by rw [hst2]; simp
        rw [hlen]
        have := drn_loads (k := k) (s := s) (W.e s) ((W.s s).length - (W.e s).a) (W.e s).a (wStep V s) i2 (by rw [hb2, hst2]) (by rw [← hst2]; exact hm2) (show (W.e s).a ≤ V.c s from hack)
        omega
    omega
  · have q1 := d1.a
    have q2 := d3.a
    rw [e2] at q2
    omega
  · intro hor
    have hne : ∃ m, m ∈ stpL (V.e s) := by
      rw [les]
      unfold stpL
      split
      · rename_i hh
        rw [hl] at hh
        have ho : (W.e s).o = true := hor.resolve_left (by omega)
        rw [if_pos ho]
        exact ⟨_, List.mem_singleton.2 rfl⟩
      · rename_i hh
        exact ⟨_, List.mem_map.2 ⟨0, List.mem_range.2 (by omega), rfl⟩⟩
    obtain ⟨m, hm⟩ := hne
    have q1 := r1 m hm
    have q2 := hacs m hm
    omega
  · intro hlt
    rw [r2, les, stpL, if_neg (by rw [hl]; omega), Bool.or_eq_true]
    right
    rw [List.any_eq_true]
    exact ⟨_, List.mem_map.2 ⟨0, List.mem_range.2 (by rw [hl]; omega), rfl⟩, rfl⟩
  · intro hb hlt
    have hVW : V = W := by rw [← hV, hb]; rfl
    rw [r2, e2, les, stpL, if_pos (by rw [hl]; exact hlt), hVW]
    split <;> simp [ackM]
end
/-! ### fair rounds -/
/-- What stands behind so many sides' turns. -/
def Qf (t : Nat) (W : Wd) : Prop :=
  if t = 0 then True
  else if t = 1 then W.c false = (W.s false).length ∧ W.b false = [] ∧ ((W.s false).length ≤ (W.e false).a ∨ (W.e true).o = true)
  else if t = 2 then W.c false = (W.s false).length ∧ W.b false = [] ∧ W.c true = (W.s true).length ∧ W.b true = [] ∧ (W.s false).length ≤ (W.e false).a ∧ (W.e true).o = false ∧ ((W.s true).length ≤ (W.e true).a ∨ (W.e false).o = true)
  else ∀ s, W.c s = (W.s s).length ∧ W.b s = [] ∧ (W.s s).length ≤ (W.e s).a ∧ (W.e s).o = false
theorem qf_step {W : Wd} {k : Nat} (hI : Inv W k) (hk : k ≤ 2000) {t : Nat} (h : Qf t W) : Qf (t + 1) (wFair W (decide (t % 2 = 1))) := by
  have hF := fair_side hI hk (decide (t % 2 = 1))
  have hI2 := inv_fair hI hk (decide (t % 2 = 1))
  by_cases h0 : t = 0
  · subst h0
    simp only [Nat.zero_mod, decide_eq_true_eq] at hF ⊢
    have hd : decide (0 = 1) = false := by decide
    rw [hd] at hF ⊢
    have hc := hF.c
    unfold Qf
    rw [if_neg (by omega), if_pos rfl, hF.ss]
    refine ⟨hc, hF.b, ?_⟩
    by_cases hl : (W.s false).length ≤ (W.e false).a
    · left; rw [hF.es]; exact hl
    · right; exact hF.load (by omega)
  · by_cases h1 : t = 1
    · subst h1
      unfold Qf at h
      rw [if_neg (by omega), if_pos rfl] at h
      have hd : decide (1 % 2 = 1) = true := by decide
      rw [hd] at hF hI2 ⊢
      obtain ⟨p1, p2, p3⟩ := h
      have hb := hF.bo
      have hc := hF.co
      have ha := hF.a
      have hs := hF.sent
      have ho := hF.load
      simp only [Bool.not_true] at hb hc ha hs ho
      unfold Qf
      rw [if_neg (by omega), if_neg (by omega), if_pos rfl, hF.ss, hF.es, hc]
      refine ⟨p1, by rw [hb]; exact p2, hF.c, hF.b, ?_, hF.o, ?_⟩
      · rcases p3 with p3 | p3
        · omega
        · have := hs (.inr p3); omega
      · by_cases hl : (W.s true).length ≤ (W.e true).a
        · exact .inl hl
        · exact .inr (ho (by omega))
    · by_cases h2 : t = 2
      · subst h2
        unfold Qf at h
        rw [if_neg (by omega), if_neg (by omega), if_pos rfl] at h
        have hd : decide (2 % 2 = 1) = false := by decide
        rw [hd] at hF hI2 ⊢
        obtain ⟨p1, p2, p3, p4, p5, p6, p7⟩ := h
        have hb := hF.bo
        have hc := hF.co
        have ha := hF.a
        have hs := hF.sent
        have ho := hF.still p2 p5
        simp only [Bool.not_false] at hb hc ha hs ho
        unfold Qf
        rw [if_neg (by omega), if_neg (by omega), if_neg (by omega)]
        intro s
        rw [hF.ss]
        cases s
        · exact ⟨hF.c, hF.b, by rw [hF.es]; exact p5, hF.o⟩
        · refine ⟨by rw [hc]; exact p3, by rw [hb]; exact p4, ?_, by rw [ho]; exact p6⟩
          rcases p7 with p7 | p7
          · omega
          · have := hs (.inr p7); omega
      · unfold Qf at h ⊢
        rw [if_neg h0, if_neg h1, if_neg h2] at h
        rw [if_neg (by omega), if_neg (by omega), if_neg (by omega)]
        obtain ⟨u, hu⟩ : ∃ u, decide (t % 2 = 1) = u := ⟨_, rfl⟩
        rw [hu] at hF ⊢
        intro s
        rw [hF.ss]
        obtain ⟨p1, p2, p3, p4⟩ := h u
        obtain ⟨q1, q2, q3, q4⟩ := h (!u)
        rcases side u s with rfl | rfl
        · exact ⟨hF.c, hF.b, by rw [hF.es]; exact p3, hF.o⟩
        · have ha := hF.a
          exact ⟨by rw [hF.co]; exact q1, by rw [hF.bo]; exact q2, by omega, by rw [hF.still p2 p3]; exact q4⟩
end Go.Proofs.Ytlmaelbalmjlbaa.Ses
