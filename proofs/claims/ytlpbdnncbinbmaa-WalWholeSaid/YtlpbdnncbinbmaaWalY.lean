/- The document's Done, of layer 4. -/
import Derived.Test.YtlpbdnncbinbmaaWalU
import Derived.Test.YtlpbdnncbinbmaaZeros
namespace Go.Proofs.Ytlpbdnncbinbmaa
open Go.ChangeShapes Go.WideShapes Go.ChangeAt Go.RowKit Go.Maps

theorem own_set {w : World} {base : Nat} {e : TypeId} {A : Option Addr} {n c : Nat} {cs : List Value} (h : w.ownsRow base e 1 (.slice A n c) n cs) {a g o : Nat} (hA : A = some ⟨g, o, none⟩) (u : Value) : (w.setCell ⟨g, o + a, none⟩ u).ownsRow base e 1 (.slice A n c) n (cs.set a u) := by
  refine ⟨by rw [List.length_set]; exact h.1, ?_⟩
  rcases h.2 with ⟨h1, h2⟩ | ⟨q, cap, cur, e1, e2, e3, r1, r2, r3, r4⟩
  · subst hA; injection h1 with h1; cases h1
  · subst hA
    injection e1 with e1 _ e4
    injection e1 with e1
    injection e1 with e5 e6
    subst e5 e6 e4
    have hb : Blk w g e cur := e3
    have := hb.setCell (0 + a) u
    refine .inr ⟨g, c, _, rfl, e2, this, r1, r2, by simpa using r3, ?_⟩
    rw [Nat.mul_one] at r4 ⊢
    rw [Array.toList_setIfInBounds, ← r4, Nat.zero_add]
    apply List.ext_getElem?
    intro j
    simp only [List.getElem?_take, List.getElem?_set, List.length_take]
    by_cases hj : j < n
    · by_cases e : a = j
      · subst e
        have h1 : a < cur.size := by omega
        have h2 : a < min n cur.size := by omega
        simp [hj, h1, h2]
      · simp [hj, e]
    · by_cases e : a = j
      · subst e
        simp [hj]
        omega
      · simp [hj, e]
/-- A model that is being changed: itself in block qo, the result in qr, its own row of rows. -/
structure Chg (F : Nat → Prop) (w wr : World) (qr qo num : Nat) (g n c : Nat) (cs : List Value) (rows : List (List UInt8)) : Prop where
  self : Blk wr qo 30 (mdC (.slice (some ⟨g, 0, none⟩) n c) num)
  res : Blk wr qr 30 (mdC (.slice none 0 0) 0)
  own : wr.ownsRow (w.heap.size + 1) 36 1 (.slice (some ⟨g, 0, none⟩) n c) n cs
  pc : PC wr (fun q => (F q ∧ q < w.heap.size ∨ w.heap.size ≤ q) ∧ q ≠ qo ∧ q ≠ qr ∧ q ≠ g) cs rows
  res0 : qr = w.heap.size
  ne : qo ≠ g
  lt : qr < qo ∧ qr < g
theorem PC.put {w : World} {F : Nat → Prop} {cs : List Value} {rows : List (List UInt8)} (h : PC w F cs rows) {a : Nat} {x : List UInt8} {X : Option Addr} {m c : Nat} (hb : Bs w X m x) (hX : X = none → m = 0) (hc : m ≤ c) (hm : c ≤ maxLen) (ho : ∀ p, X = some p → 0 < m → F p.block) : PC w F (cs.set a (.slice X m c)) (rows.set a x) := by
  refine ⟨by rw [List.length_set, List.length_set]; exact h.1, fun j hj => ?_⟩
  have hj' : j < rows.length := by simpa using hj
  by_cases e : a = j
  · subst e
    exact ⟨X, m, c, by rw [List.getElem?_set_self (by rw [h.1]; exact hj')], by simpa using hb, hX, hc, hm, ho⟩
  · obtain ⟨X', m', c', e2, r⟩ := h.2 j hj'
    refine ⟨X', m', c', by rw [List.getElem?_set_ne e]; exact e2, ?_⟩
    simp only [List.getElem_set_ne e]
    exact r
theorem rowsOf_set (P : Nat → List UInt8) (n : Nat) (u : Upd) (a : Nat) (hu : u.1 = (a : Int)) (l : List Upd) : doneP (u :: l) P = doneP l (fun (i : Nat) => if (i : Int) = u.1 then rowOf u.2 else P i) := rfl
theorem doneP_snoc (l : List Upd) (u : Upd) : ∀ P : Nat → List UInt8, doneP (l ++ [u]) P = fun (i : Nat) => if (i : Int) = u.1 then rowOf u.2 else doneP l P i := by
  induction l with
  | nil => intro P; rfl
  | cons v l ih => intro P; simp only [List.cons_append, doneP]; rw [ih]
theorem rowsOf_done (l : List Upd) (u : Upd) (P : Nat → List UInt8) (n a : Nat) (hu : u.1 = (a : Int)) : rowsOf (doneP (l ++ [u]) P) n = (rowsOf (doneP l P) n).set a (rowOf u.2) := by
  rw [doneP_snoc]
  unfold rowsOf
  apply List.ext_getElem?
  intro j
  rw [List.getElem?_map, List.getElem?_set]
  by_cases hj : j < n
  · rw [List.getElem?_range hj]
    by_cases e : a = j
    · subst e
      simp [hu, hj]
    · have : ¬ (j : Int) = u.1 := by omega
      simp [e, this, hj]
  · have h1 : (List.range n)[j]? = none := List.getElem?_eq_none (by simp; omega)
    rw [h1]
    by_cases e : a = j
    · subst e; simp [hj]
    · simp [e, hj]

theorem cellG {w w' : World} {b : Nat} {p : Addr} {u : Value} (hg : w.grownBy w' (some b)) (h : w.cell? p = some u) (hne : p.block ≠ b) : w'.cell? p = some u :=
  (World.cell?_of_block (hg.block p.block (cell_lt h) (by intro e; injection e with e; exact hne e))).trans h
theorem own_gr {w w' : World} {base : Nat} {e : TypeId} {size : Nat} {v : Value} {n : Nat} {xs : List Value} {row : Option Nat} (h : w.ownsRow base e size v n xs) (hg : w.grownBy w' row) (hne : ∀ q, v.ownBlock = some q → some q ≠ row) : w'.ownsRow base e size v n xs := by
  refine ⟨h.1, ?_⟩
  rcases h.2 with h2 | ⟨q, cap, cur, e1, e2, e3, r⟩
  · exact .inl h2
  · exact .inr ⟨q, cap, cur, e1, e2, (hg.block q (Array.getElem?_eq_some_iff.1 e3).1 (hne q (by rw [e1]; rfl))).trans e3, r⟩
theorem Below.set2 {B : Nat} {a w : World} (h : Below B a w) {b : Nat} (hb : B ≤ b) (hB : B ≤ a.heap.size) (u0 u1 : Value) : Below B a ((w.setCell ⟨b, 0, none⟩ u0).setCell ⟨b, 1, none⟩ u1) :=
  h.grown (grown2 w b u0 u1) (Nat.le_trans hB h.size) (fun j e => by injection e with e; omega)
theorem Chg.below {F : Nat → Prop} {w wr w' : World} {qr qo num g n c : Nat} {cs : List Value} {rows : List (List UInt8)} (h : Chg F w wr qr qo num g n c cs rows) (hb : Below wr.heap.size wr w') : Chg F w w' qr qo num g n c cs rows :=
  ⟨h.self.keep hb, h.res.keep hb, own_keep h.own hb, h.pc.below hb, h.res0, h.ne, h.lt⟩
theorem Chg.put {F : Nat → Prop} {w wr : World} {qr qo num g n c : Nat} {cs : List Value} {rows : List (List UInt8)} (h : Chg F w wr qr qo num g n c cs rows) {a : Nat} {x : List UInt8} {X : Option Addr} {m xc : Nat} (hb : Bs wr X m x) (hX : X = none → m = 0) (hc : m ≤ xc) (hm : xc ≤ maxLen)
    (ho : ∀ p, X = some p → 0 < m → w.heap.size ≤ p.block ∧ p.block ≠ qo ∧ p.block ≠ qr ∧ p.block ≠ g) : Chg F w (wr.setCell ⟨g, a, none⟩ (.slice X m xc)) qr qo num g n c (cs.set a (.slice X m xc)) (rows.set a x) := by
  have hg := grown_setCell wr ⟨g, a, none⟩ (.slice X m xc)
  have hne := h.ne
  have hlt := h.lt
  refine ⟨h.self.grown hg (by intro e; injection e with e; exact hne e), h.res.grown hg (by intro e; injection e with e; simp only at e; omega), ?_, (h.pc.put hb hX hc hm (fun p hp h0 => ⟨.inr (ho p hp h0).1, (ho p hp h0).2⟩)).grown hg (fun q hq e => by injection e with e; exact hq.2.2.2 e), h.res0, h.ne, h.lt⟩
  have := own_set h.own (a := a) rfl (.slice X m xc)
  rwa [Nat.zero_add] at this
theorem zeros_row {x : List UInt8} {n : Nat} (h : n = x.length) : bvs x ++ List.replicate (48 - n) (.int .u8 0) = bvs (rowOf x) := by
  subst h
  unfold rowOf
  rw [bvs_append]
  congr 1
  unfold bvs
  rw [List.map_replicate]
  rfl
theorem PC.one {w : World} {F : Nat → Prop} {cs : List Value} {rows : List (List UInt8)} (h : PC w F cs rows) : ∀ u ∈ cs, u.oneCell' = true := fun u hu => by
  obtain ⟨j, hj, rfl⟩ := List.getElem_of_mem hu
  obtain ⟨X, m, c, e, _⟩ := h.2 j (by rw [← h.1]; exact hj)
  rw [List.getElem?_eq_getElem hj] at e
  injection e with e
  rw [e]; rfl
set_option maxRecDepth 100000 in
set_option maxHeartbeats 4000000 in
theorem done_ (F : Nat → Prop) (bm n c num lo hi : Nat) (A B : Option Addr) (un uc : Nat) (l : List Upd) (P : Nat → List UInt8) (w : World) (hm : Blk w bm 30 (mdC (.slice A n c) num)) (hp : Pls w F A n (rowsOf P n)) (hU : Uss w lo hi B un l) (hn0 : 0 < n) (hn : n < 300) (hl : ∀ u ∈ l, ¬ badU n u) (hl6 : l.length ≤ 6) (hnum : num < 9223372036854775807) (hA : A = none → n = 0) :
    Calls Try.prog 17 #[.pointer (some ⟨bm, 0, none⟩), .slice B un uc] w fun e w' => ∃ A' c', e = .returned (.agg #[.slice A' n c', .int .i64 ((num + 1 : Nat) : Int)]) ∧ Pls w' (fun q => F q ∧ q < w.heap.size ∨ w.heap.size ≤ q) A' n (rowsOf (doneP l P) n) ∧ n ≤ c' ∧ c' ≤ maxLen ∧ Below w.heap.size w w' := by
  obtain ⟨iu, hiu, huz0, huz1, huz2⟩ := info_parts info_bytes
  obtain ⟨i0, hi0, hz0, hz1, hz2⟩ := info_parts info_u8
  have Hz := Lib.hid hz2
  have Hu1 := Lib.hid huz1
  have Hu2 := Lib.hid huz2
  clear huz1 huz2 hz2
  have Hn := Lib.hid hU.1
  have hun6 : un ≤ 6 := by have := hU.1; omega
  have hml := hm.lt
  obtain ⟨hrl, cs, hr, hpc, hpo⟩ := hp
  clear hrl
  have hone := hpc.one
  have hB0 : Below w.heap.size w (w.alloc (mdO (.slice none 0 0) 0)) := (Below.refl _ _).alloc (Nat.le_refl _) _
  have hq0 : Blk (w.alloc (mdO (.slice none 0 0) 0)) w.heap.size 30 (mdC (.slice none 0 0) 0) := Blk.new w _ _ rfl
  have hm0 := hm.alloc (mdO (.slice none 0 0) 0)
  have hr0 := hr.alloc (mdO (.slice none 0 0) 0)
  have hpc0 := (hpc.mono (F' := fun q => F q ∧ q < w.heap.size) fun q hq hF => ⟨hF, hq⟩).below hB0
  have hU0 := hU.below hB0
  have hz0' : w.heap.size + 1 = (w.alloc (mdO (.slice none 0 0) 0)).heap.size := by simp
  have c0 := hm0.cell (j := 0) (u := .slice A n c) rfl
  have c1 := hm0.cell (j := 1) (u := .int .i64 (num : Int)) rfl
  have hml0 := hm0.lt
  have hwp : IntKind.i64.wrap ((num : Int) + 1) = ((num + 1 : Nat) : Int) := by rw [IntKind.wrap_i64]; omega
  go_enter Try.func17, Try.ntmps17
  go_wp2_with fail
  generalize w.alloc (mdO (.slice none 0 0) 0) = w1 at *
  have hs1 : w.heap.size + 1 ≤ w1.heap.size := by omega
  have hs1' : w.heap.size + 1 ≤ (w1.alloc (mdO (.slice none 0 0) 0)).drew.heap.size := by simp; omega
  clear hz0'
  go_region_held3 (fun w' => w'.cell? ⟨bm, 0, none⟩ = some (.slice A n c) ∧ w'.cell? ⟨bm, 1, none⟩ = some (.int .i64 (num : Int)))
    (first | go_keep | exact ⟨c0, c1⟩ | exact ⟨(hbd.cell (show bm < w1.heap.size from hml0)).trans c0, (hbd.cell (show bm < w1.heap.size from hml0)).trans c1⟩ | exact ⟨((hbd.alloc hbd.size _).cell (show bm < w1.heap.size from hml0)).trans c0, ((hbd.alloc hbd.size _).cell (show bm < w1.heap.size from hml0)).trans c1⟩ | exact ⟨((Below.set2 hbd (Nat.le_refl _) (Nat.le_refl _) _ _).cell (show bm < w1.heap.size from hml0)).trans c0, ((Below.set2 hbd (Nat.le_refl _) (Nat.le_refl _) _ _).cell (show bm < w1.heap.size from hml0)).trans c1⟩)
    (first
      | (refine step_app _ rfl (.const (.slice none 0 0)) (.tmp 15) _ rfl (w.heap.size + 1) 36 iu (.slice none 0 0) 1 24 Try.underlying28 hiu huz0 Hu1.out Hu2.out rfl Nat.one_pos (.slice none 0 0) 0 [] rfl (own_nil _ _ _ _) A n c cs rfl hA (show Rd w1.drew A 1 n cs from hr0) hone (by unfold maxLen; omega) (by omega) (show w.heap.size + 1 ≤ w1.heap.size from hs1) ?_
         intro v2 w2 hown2 hg2 hat2
         rw [Nat.zero_add, List.nil_append] at hown2
         have hbd : Below w1.heap.size w1 w2 := ⟨hg2.os, hg2.tape, hg2.output, hg2.size, fun k hk => hg2.block k hk (by simp [Value.ownBlock])⟩
         obtain ⟨A2, c2, rfl, hc2, hm2, ha2⟩ := own_form hown2)
      | (refine step_app _ rfl (.const (.slice none 0 0)) (.tmp 15) _ rfl (w.heap.size + 1) 36 iu (.slice none 0 0) 1 24 Try.underlying28 hiu huz0 Hu1.out Hu2.out rfl Nat.one_pos (.slice none 0 0) 0 [] rfl (own_nil _ _ _ _) A n c cs rfl hA (show Rd (w1.alloc (mdO (.slice none 0 0) 0)).drew A 1 n cs from hr0.alloc (mdO (.slice none 0 0) 0)) hone (by unfold maxLen; omega) (by omega) hs1' ?_
         intro v2 w2 hown2 hg2 hat2
         rw [Nat.zero_add, List.nil_append] at hown2
         have hbz : Below (w1.heap.size + 1) (w1.alloc (mdO (.slice none 0 0) 0)) w2 := ⟨hg2.os, hg2.tape, hg2.output, hg2.size, fun k hk => hg2.block k (by simpa using hk) (by simp [Value.ownBlock])⟩
         have hbd : Below w1.heap.size w1 w2 := ((Below.refl _ _).alloc (Nat.le_refl _) _).trans (hbz.mono (Nat.le_succ _))
         obtain ⟨A2, c2, rfl, hc2, hm2, ha2⟩ := own_form hown2
         have hzz : Blk w2 w1.heap.size 30 (mdC (.slice none 0 0) 0) := (Blk.new w1 _ _ rfl).below hbz (Nat.lt_succ_self _)
         have z0 := hzz.cell (j := 0) (u := .slice none 0 0) rfl
         have z1 := hzz.cell (j := 1) (u := .int .i64 (0 : Nat)) rfl
         have zf0 := hzz.free 0
         have zf1 := hzz.free 1))
  all_goals
    obtain ⟨g, rfl⟩ : ∃ g, A2 = some ⟨g, 0, none⟩ := by
      rcases hown2.2 with ⟨h, _⟩ | ⟨g, cap, cur, h, _⟩
      · injection h with h1 h2; omega
      · injection h with h; exact ⟨g, h⟩
  all_goals
    have hg1 : g = w1.heap.size ∨ g = w1.heap.size + 1 := by
      rcases hat2 with h | h
      · simp [Value.ownBlock] at h
      · simp [Value.ownBlock] at h; omega
    have hgl2 : g < w2.heap.size := (hown2.lt g rfl).2
    first
    | (have hzq := hzz
       have hg2' : g = w1.heap.size + 1 := by
         rcases hat2 with h | h
         · simp [Value.ownBlock] at h
         · simpa [Value.ownBlock] using h
       have hset := grown2 w2 w1.heap.size (.slice (some ⟨g, 0, none⟩) n c2) (.int .i64 ((num : Int) + 1))
       have hC : Chg F w ((w2.setCell ⟨w1.heap.size, 0, none⟩ (.slice (some ⟨g, 0, none⟩) n c2)).setCell ⟨w1.heap.size, 1, none⟩ (.int .i64 ((num : Int) + 1))) w.heap.size w1.heap.size (num + 1) g n c2 cs (rowsOf P n) :=
         ⟨hzz.set2 _ _, (hq0.keep hbd).grown hset (by intro e; injection e with e; omega), own_gr hown2 hset (fun q hq e => by simp [Value.ownBlock] at hq; injection e with e; omega),
          ((hpc0.below hbd).grown hset (fun q hq e => by injection e with e; omega)).mono fun q _ hq => ⟨.inl hq, by omega, by omega, by omega⟩, rfl, by omega, by omega, by omega⟩
       have hBz := Below.set2 hbd (Nat.le_refl _) (Nat.le_refl _) (.slice (some ⟨g, 0, none⟩) n c2) (.int .i64 ((num : Int) + 1))
       clear z0 z1 zf0 zf1 hzz hbz hzq
       generalize ((w2.setCell ⟨w1.heap.size, 0, none⟩ (.slice (some ⟨g, 0, none⟩) n c2)).setCell ⟨w1.heap.size, 1, none⟩ (.int .i64 ((num : Int) + 1))) = wz at *
       obtain ⟨qo, hqo⟩ : ∃ qo, qo = w1.heap.size := ⟨_, rfl⟩
       rw [← hqo] at hC ⊢)
    | (have hg2' : g = w1.heap.size := by
         rcases hat2 with h | h
         · simp [Value.ownBlock] at h
         · simpa [Value.ownBlock] using h
       have hC : Chg F w (w2.alloc (.cells #[.slice (some ⟨g, 0, none⟩) n c2, .int .i64 ((num : Int) + 1)] 30)) w.heap.size w2.heap.size (num + 1) g n c2 cs (rowsOf P n) :=
         ⟨Blk.new w2 _ _ rfl, (hq0.keep hbd).alloc _, hown2.alloc _,
          ((hpc0.below hbd).below ((Below.refl _ _).alloc (Nat.le_refl _) _)).mono fun q _ hq => ⟨.inl hq, by have := hbd.size; omega, by omega, by omega⟩, rfl, by omega, by have := hbd.size; omega, by omega⟩
       have hBz : Below w1.heap.size w1 (w2.alloc (.cells #[.slice (some ⟨g, 0, none⟩) n c2, .int .i64 ((num : Int) + 1)] 30)) := hbd.alloc hbd.size _
       generalize (w2.alloc (.cells #[.slice (some ⟨g, 0, none⟩) n c2, .int .i64 ((num : Int) + 1)] 30)) = wz at *
       obtain ⟨qo, hqo⟩ : ∃ qo, qo = w2.heap.size := ⟨_, rfl⟩
       rw [← hqo] at hC ⊢)
  all_goals
    have hBw : Below w.heap.size w wz := hB0.trans (hBz.mono (by omega))
    have hm2c := hm2
    clear hqo hg1 hgl2 hg2' hBz hown2 hat2 hg2 hbd hm2 ha2 hm hm0 hr hr0 hpc hpc0 hU0 c0 c1 hq0 hs1' hB0 hml0
    go_wp2_with fail
    go_loopw [6] (fun i wr => ∃ j : Nat, j ≤ un ∧ i = .int .i64 (j : Int) ∧ ∃ cs, Chg F w wr w.heap.size qo (num + 1) g n c2 cs (rowsOf (doneP (l.take j) P) n) ∧ Below w.heap.size w wr) (fun i _ => un - (intOf i).toNat)
    case atStart => exact ⟨0, Nat.zero_le _, rfl, cs, hC, hBw⟩
    case round =>
      obtain ⟨j, hj, rfl, cs2, hD, hB⟩ := hrel
      clear hC hBw
      have hzw := hB.size
      have k0 := hD.self.cell (j := 0) (u := .slice (some ⟨g, 0, none⟩) n c2) rfl
      have hkl := hD.self.lt
      by_cases hlt : j < un
      · obtain ⟨q, o, X, xn, xc, hAq, hx, hc0', hc1', hbx', hX, hnc, hcm, hXo, hbo⟩ := hU.at_ hlt
        subst hAq
        have hbad := hl _ (List.getElem_mem hx)
        unfold badU at hbad
        have hc0 : wr.cell? ⟨q, o + j * 2, none⟩ = _ := (hB.cell (cell_lt hc0')).trans hc0'
        have hc1 : wr.cell? ⟨q, o + j * 2 + 1, none⟩ = _ := (hB.cell (cell_lt hc1')).trans hc1'
        have hql : q < w.heap.size := cell_lt hc0'
        have hbx := hbx'.below hB
        have HT := Lib.hid (List.take_succ_eq_append_getElem hx)
        obtain ⟨u, hu⟩ : ∃ u, l[j] = u := ⟨_, rfl⟩
        rw [hu] at hbad hc0 hbx HT
        obtain ⟨az, x⟩ := u
        simp only at hbad hc0 hbx
        obtain ⟨a, rfl⟩ : ∃ a : Nat, az = (a : Int) := ⟨az.toNat, by omega⟩
        have hxl := Lib.hid hbx.len
        have hxn : xn ≤ 48 := by have := hbx.len; omega
        have han : (a : Int) < (n : Int) := by omega
        have ha0 : 0 ≤ (a : Int) := by omega
        have hjun : (j : Int) < (un : Int) := by omega
        have hsub : IntKind.i64.wrap ((48 : Int) - (xn : Int)) = ((48 - xn : Nat) : Int) := by rw [IntKind.wrap_i64]; omega
        have Hsub := Lib.hid hsub
        have hgw := (hD.own.lt g rfl)
        have hgc : ∃ cg, wr.cell? ⟨g, a, none⟩ = some cg := by
          obtain ⟨b', o', e, hh, hc⟩ := (rd_own hD.own).at_ (k := a) (by omega)
          injection e with e
          injection e with e1 e2
          subst e1 e2
          rw [Nat.zero_add] at hc
          exact ⟨_, hc⟩
        have hgf : wr.frozen? ⟨g, a, none⟩ = false := by
          rcases hD.own.2 with ⟨h, _⟩ | ⟨g', cap, cur, h, _, h3, _⟩
          · injection h with h1; cases h1
          · injection h with h1
            injection h1 with h1
            injection h1 with h1
            subst h1
            exact Blk.free h3 a
        obtain ⟨cg, hgc⟩ := hgc
        clear hsub hu hbad hc0' hc1' hbx'
        have hqo : qo < wr.heap.size := hkl
        go_wp2_with fail
        go_region_held3 (fun w' => w'.cell? ⟨qo, 0, none⟩ = some (.slice (some ⟨g, 0, none⟩) n c2) ∧ w'.cell? ⟨q, o + j * 2, none⟩ = some (.int .i64 (a : Int)) ∧ w'.cell? ⟨q, o + j * 2 + 1, none⟩ = some (.slice X xn xc))
          (first | go_keep | exact ⟨k0, hc0, hc1⟩ | exact ⟨(hb3.cell (show qo < wr.heap.size from hqo)).trans k0, (hb3.cell (show q < wr.heap.size by omega)).trans hc0, (hb3.cell (show q < wr.heap.size by omega)).trans hc1⟩ | exact ⟨(hb4.cell (show qo < wr.heap.size from hqo)).trans k0, (hb4.cell (show q < wr.heap.size by omega)).trans hc0, (hb4.cell (show q < wr.heap.size by omega)).trans hc1⟩ | exact ⟨cellG (grown_setCell _ _ _) ((hb4.cell (show qo < wr.heap.size from hqo)).trans k0) hD.ne, cellG (grown_setCell _ _ _) ((hb4.cell (show q < wr.heap.size by omega)).trans hc0) (by show q ≠ g; omega), cellG (grown_setCell _ _ _) ((hb4.cell (show q < wr.heap.size by omega)).trans hc1) (by show q ≠ g; omega)⟩)
          (first
            | (refine step_app _ rfl (.const (.slice none 0 0)) (.tmp 35) _ rfl wr.heap.size 5 i0 (.int .u8 0) 1 1 Try.underlying36 hi0 hz0 hz1 Hz.out rfl Nat.one_pos (.slice none 0 0) 0 [] rfl (own_nil _ _ _ _) X xn xc _ rfl (fun h => (hX h).1) (show Bs wr.drew X xn x from hbx) (bvs_one _) (by unfold maxLen; omega) (by omega) (Nat.le_refl _) ?_
               intro v3 w3 hown3 hg3 hat3
               rw [Nat.zero_add, List.nil_append] at hown3
               have hb3 : Below wr.heap.size wr w3 := ⟨hg3.os, hg3.tape, hg3.output, hg3.size, fun k hk => hg3.block k hk (by simp [Value.ownBlock])⟩)
            | (refine step_app_zeros _ rfl (.tmp 36) (.tmp 43) _ _ rfl wr.heap.size 5 i0 (.int .u8 0) 1 .i64 .i64 Try.underlying36 Try.underlying3 hi0 hz0 hz1 Hz.out rfl rfl v3 xn _ rfl hown3 _ (48 - xn) rfl Hsub.out (by unfold maxLen; omega) (by omega) hb3.size ?_
               intro v4 w4 hown4 hg4 hat4
               rw [show xn + (48 - xn) = 48 by omega] at hown4
               obtain ⟨A4, c4, rfl, hc4, hm4, ha4⟩ := own_form hown4
               have hb4 : Below wr.heap.size wr w4 := hb3.trans (grown_below hg4 hb3.size (fun j hj => (hown3.lt j hj).1))
               have s0 : w4.cell? ⟨g, a, none⟩ = some cg := (hb4.cell (show g < wr.heap.size from hgw.2)).trans hgc
               have s1 : w4.frozen? ⟨g, a, none⟩ = false := (hb4.frozen (show g < wr.heap.size from hgw.2)).trans hgf))
        rw [zeros_row hxl.out] at hown4
        have hD4 := (hD.below hb4).put (a := a) (bs_own hown4) (fun e => (ha4 e).1) hc4 hm4 (fun p hp _ => by
          have := (hown4.lt p.block (by rw [hp]; rfl)).1
          have := hD.lt
          exact ⟨by omega, by omega, by omega, by omega⟩)
        rw [← rowsOf_done (l.take j) ((a : Int), x) P n a rfl, ← HT.out] at hD4
        have hB4 : Below w.heap.size w (w4.setCell ⟨g, a, none⟩ (.slice A4 48 c4)) := (hB.trans (hb4.mono hzw)).grown (grown_setCell _ _ _) (by have := hb4.size; omega) (fun p hp => by injection hp with hp; simp only at hp; omega)
        clear hown4 hown3 hg3 hg4 hat4 hat3 hb3 hb4 s0 s1 hgc hgf hbx hc0 hc1 k0 hD hB HT
        go_wp2
        go_roundw
        case rel => exact ⟨j + 1, by omega, by go_num, _, hD4, hB4⟩
        case measure => simp [intOf]; omega
      · obtain rfl : j = un := by omega
        rw [List.take_of_length_le (by rw [← Hn.out]; exact Nat.le_refl _)] at hD
        have k1 := hD.self.cell (j := 1) (u := .int .i64 ((num + 1 : Nat) : Int)) rfl
        have r0 := hD.res.cell (j := 0) (u := .slice none 0 0) rfl
        have r1 := hD.res.cell (j := 1) (u := .int .i64 (0 : Nat)) rfl
        have g0 := hD.res.free 0
        have g1 := hD.res.free 1
        have hlr := hD.res.lt
        go_wp2
        refine bodyPost_ret (results_md rfl rfl (hD.res.set2 (.slice (some ⟨g, 0, none⟩) n c2) (.int .i64 ((num + 1 : Nat) : Int)))) rfl ?_
        have hset := grown2 wr w.heap.size (.slice (some ⟨g, 0, none⟩) n c2) (.int .i64 ((num + 1 : Nat) : Int))
        have hlt2 := hD.lt
        have hpls : Pls wr (fun q => (F q ∧ q < w.heap.size ∨ w.heap.size ≤ q) ∧ q ≠ w.heap.size) (some ⟨g, 0, none⟩) n (rowsOf (doneP l P) n) :=
          ⟨(rowsOf_length _ _).symm, cs2, rd_own hD.own, hD.pc.mono fun q _ hq => ⟨hq.1, hq.2.2.1⟩, fun p hp _ => by injection hp with hp; subst hp; exact ⟨.inr (by show w.heap.size ≤ g; omega), by show g ≠ w.heap.size; omega⟩⟩
        exact ⟨some ⟨g, 0, none⟩, c2, rfl, (hpls.grown hset (fun q hq e => by injection e with e; exact hq.2 e)).mono fun q _ hq => hq.1, hc2, hm2c, hB.grown hset hzw (fun k e => by injection e with e; omega)⟩
end Go.Proofs.Ytlpbdnncbinbmaa
