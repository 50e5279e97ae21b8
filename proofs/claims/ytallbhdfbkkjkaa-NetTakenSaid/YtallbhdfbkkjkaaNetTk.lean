/- Layer 15: what is taken and not spoilt is a message that was put; a spoilt one is not unpacked (NetTaken). No condition. -/
import Derived.Test.YtallbhdfbkkjkaaNetAr
import Derived.Test.YtallbhdfbkkjkaaNetE
set_option linter.all false
namespace Go.Proofs.Ytallbhdfbkkjkaa
open Go.ChangeShapes Go.WideShapes Go.ChangeAt Go.RowKit
namespace Net
theorem blk_ne {w : World} {b : Nat} {t : TypeId} {cs : Array Value} (h : Blk w b t cs) {B : Nat} {T : TypeId} {sz n : Nat} {v : Value} {xs : List Value} (hv : w.ownsRow B T sz v n xs) (ht : T ≠ t) : v.ownBlock ≠ some b := by
  intro e
  rcases hv.2 with ⟨rfl, _⟩ | ⟨g, cap, cur, rfl, _, hh, _⟩
  · cases e
  · injection e with e
    simp only at e
    subst e
    have h' : w.heap[g]? = _ := h
    rw [hh] at h'
    injection h' with h'
    injection h' with _ h' _
    exact ht h'
/-- A bag beside a row of another type. -/
theorem Bg.apart {w : World} {B b : Nat} {U : Nat → Prop} {l : List Gr} (h : Bg w B b U l) {B' : Nat} {T : TypeId} {sz n : Nat} {v : Value} {xs : List Value} (hv : w.ownsRow B' T sz v n xs) (h1 : T ≠ 65) (h2 : T ≠ 93) (h3 : T ≠ 5) :
    Bg w B b (fun k => B ≤ k ∧ k < w.heap.size ∧ v.ownBlock ≠ some k ∧ k ≠ b) l ∧ v.ownBlock ≠ some b := by
  obtain ⟨v', L, e, hX⟩ := h
  refine ⟨⟨v', L, e, ⟨hX.blk, hX.row, hX.data, hX.apart, fun g hg => ⟨(hX.row.lt g hg).1, (hX.row.lt g hg).2, own_ne hX.row hv h2.symm hg, fun e => hX.out (e ▸ hX.rowU g hg)⟩, fun p hp g hg => ⟨((hX.data p hp).lt g hg).1, ((hX.data p hp).lt g hg).2, own_ne (hX.data p hp) hv h3.symm hg, fun e => hX.out (e ▸ hX.dataU p hp g hg)⟩, fun e => e.2.2.2 rfl, hX.low, hX.few, hX.far⟩⟩, blk_ne hX.blk hv h1⟩
/-- The row of another type goes on: the bag stays. -/
theorem Bg.beside {w w' : World} {B b : Nat} {U : Nat → Prop} {l : List Gr} (h : Bg w B b U l) {B' : Nat} {T : TypeId} {sz n : Nat} {v : Value} {xs : List Value} (hv : w.ownsRow B' T sz v n xs) (h1 : T ≠ 65) (h2 : T ≠ 93) (h3 : T ≠ 5) (hg : w.grownBy w' v.ownBlock) : ∃ U', Bg w' B b U' l := by
  obtain ⟨ha, hb⟩ := h.apart hv h1 h2 h3
  exact ⟨_, ha.fu (Fu.ofGrown (S := fun k => v.ownBlock = some k) hg (fun k e => e)) (fun k hk e => hk.2.2.1 e) hb⟩
/-! ### the messages that were put -/
abbrev mv (p : Ms × Value) : List Value := (ma p.1 p.2).toList
def mvs (P : List (Ms × Value)) : List Value := P.flatMap mv
theorem mvs_app (P Q : List (Ms × Value)) : mvs (P ++ Q) = mvs P ++ mvs Q := by simp [mvs]
theorem mvs_snoc (P : List (Ms × Value)) (p : Ms × Value) : mvs (P ++ [p]) = mvs P ++ mv p := by rw [mvs_app]; simp [mvs]
theorem mvs_cons (p : Ms × Value) (P : List (Ms × Value)) : mvs (p :: P) = mv p ++ mvs P := rfl
theorem mvs_len : ∀ P : List (Ms × Value), (mvs P).length = P.length * 7
  | [] => rfl
  | p :: P => by rw [mvs_cons, List.length_append, mvs_len P, List.length_cons]; simp; omega
theorem mvs_at : ∀ {P : List (Ms × Value)} {k : Nat} (h : k < P.length) {j : Nat} (_ : j < 7), (mvs P)[k * 7 + j]? = (mv P[k])[j]?
  | p :: P, 0, _, j, hj => by
    rw [mvs_cons, List.getElem?_append_left (by simp; omega)]
    simp
  | p :: P, k + 1, h, j, hj => by
    rw [mvs_cons, List.getElem?_append_right (by simp; omega)]
    have e : (k + 1) * 7 + j - (mv p).length = k * 7 + j := by simp; omega
    rw [e, mvs_at (P := P) (by simpa using h) hj]
    simp
theorem info_msg : (Try.prog.info? 24).map (fun i => (i.zero, i.size, i.bytes)) = some (some (.agg ma0), 7, 72) := by kernel_rfl
theorem msg_info : ∃ i, Try.prog.info? 24 = some i ∧ i.zero = some (.agg ma0) ∧ i.size = 7 ∧ i.bytes = 72 := by
  obtain ⟨i, hi, he⟩ := Option.map_eq_some_iff.1 info_msg
  simp only [Prod.mk.injEq] at he
  exact ⟨i, hi, he.1, he.2.1, he.2.2⟩
theorem mv_one (m : Ms) (A : Option Addr) (n c : Nat) : ∀ u ∈ mv (m, .slice A n c), u.oneCell' = true := by
  intro u hu
  simp only [mv, List.mem_cons, List.not_mem_nil, or_false] at hu
  rcases hu with rfl | rfl | rfl | rfl | rfl | rfl | rfl <;> rfl
/-- The law's row of messages, each of which is one that came in. -/
structure PRow (w wr : World) (b : Nat) (v : Value) (P : List (Ms × Value)) : Prop where
  row : wr.ownsRow b 24 7 v P.length (mvs P)
  each : ∀ p ∈ P, ∃ X n c, p.2 = .slice X n c ∧ Mdt w p.1 X n c
theorem PRow.keep {w wr w2 : World} {b : Nat} {v : Value} {P : List (Ms × Value)} (h : PRow w wr b v P) (hb : Below wr.heap.size wr w2) : PRow w w2 b v P := ⟨own_keep h.row hb, h.each⟩
theorem PRow.fu {w wr w2 : World} {b : Nat} {v : Value} {P : List (Ms × Value)} {S : Nat → Prop} (h : PRow w wr b v P) (hf : Fu S wr w2) (hs : ∀ g, v.ownBlock = some g → ¬ S g) : PRow w w2 b v P := ⟨own_fu h.row hf hs, h.each⟩
theorem mod4 {kd r : Nat} (h : kd % 4 = r) (j : Int) : ((kd : Int) % 4 == j) = decide (j = (r : Int)) := by
  by_cases e : j = (r : Int)
  · subst e; simp; omega
  · rw [decide_eq_false e, beq_eq_false_iff_ne]; omega
def anyM (m : Ms) (P : List (Ms × Value)) : Bool := P.any fun p => decide (m = p.1)
theorem anyM_snoc (m : Ms) (P : List (Ms × Value)) (p : Ms × Value) : anyM m (P ++ [p]) = (anyM m P || decide (m = p.1)) := by simp [anyM]
theorem anyM_mem {m : Ms} {P : List (Ms × Value)} (h : m ∈ P.map (·.1)) : anyM m P = true := by
  obtain ⟨p, hp, rfl⟩ := List.mem_map.1 h
  exact List.any_eq_true.2 ⟨p, hp, decide_eq_true rfl⟩
theorem PRow.at_ {w wr : World} {b : Nat} {A : Option Addr} {n c : Nat} {P : List (Ms × Value)} (h : PRow w wr b (.slice A n c) P) {k : Nat} (hk : k < P.length) :
    ∃ g, A = some ⟨g, 0, none⟩ ∧ wr.cell? ⟨g, k * 7, none⟩ = some (.int .i64 P[k].1.fr) ∧ wr.cell? ⟨g, k * 7 + 1, none⟩ = some (.int .i64 P[k].1.to) ∧ wr.cell? ⟨g, k * 7 + 2, none⟩ = some (.int .i64 P[k].1.k) ∧ wr.cell? ⟨g, k * 7 + 3, none⟩ = some (.int .i64 P[k].1.ep) ∧ wr.cell? ⟨g, k * 7 + 4, none⟩ = some (.int .i64 P[k].1.sq) ∧ wr.cell? ⟨g, k * 7 + 5, none⟩ = some (.int .i64 P[k].1.ac) ∧ wr.cell? ⟨g, k * 7 + 6, none⟩ = some P[k].2 := by
  have hr := h.row
  obtain ⟨A', c', e, _⟩ := own_form hr
  injection e with e1 e2 e3
  subst e1 e2 e3
  obtain ⟨g, cap, e, _⟩ := hr.form (by omega)
  injection e with e1 _ _
  subst e1
  have at_ : ∀ j u, j < 7 → (mv P[k])[j]? = some u → wr.cell? ⟨g, k * 7 + j, none⟩ = some u := fun j u hj hu => by
    rw [hr.cellAt (k * 7 + j) (by omega), mvs_at hk hj, hu]
  exact ⟨g, rfl, at_ 0 _ (by omega) rfl, at_ 1 _ (by omega) rfl, at_ 2 _ (by omega) rfl, at_ 3 _ (by omega) rfl, at_ 4 _ (by omega) rfl, at_ 5 _ (by omega) rfl, at_ 6 _ (by omega) rfl⟩
section
variable (w : World)
set_option maxRecDepth 100000 in
set_option maxHeartbeats 8000000 in
theorem taken_walk (A : Option Addr) (n c : Nat) (ms : List Ms) (h : Mss w A n ms) (hnc : n ≤ c) (hc : c * 72 ≤ 140737488351232) (S : Option Addr) (k d : Nat) (al : List Act) (hs : Acs w S k al) (hkd : k ≤ d) (hd : d * 56 ≤ 140737488351232) :
    Calls Try.prog 7 #[.slice A n c, .slice S k d] w fun e w' => e = .returned (.bool true) ∧ Below w.heap.size w w' := by
  obtain ⟨i0, hi0', hz0, hz1, hz2⟩ := msg_info
  have Hz := Lib.hid hz2
  have Hl := Lib.hid h.len
  have HS := Lib.hid hs
  clear hz2 hs
  go_enter Try.func7, Try.ntmps7
  go_wp2_with fail
  refine (bnew_ w).mono ?_
  rintro e w1 ⟨rfl, hG1, hb1, hs1⟩
  obtain ⟨b, hb⟩ : ∃ b, w.heap.size = b := ⟨_, rfl⟩
  rw [hb] at hG1 hs1 ⊢
  go_wp2_with fail
  refine (alive_ w1).mono ?_
  rintro e w2 ⟨rfl, hb2⟩
  have hG2 := hG1.keep hb2
  have hB2 : Below b w w2 := by rw [← hb]; exact below_step hb1 hb2 (Nat.le_refl _)
  have hs2 := hb2.size
  clear hG1 hb1 hb2
  go_wp2_with fail
  go_loopw [30, 6] (fun iv v wr => ∃ (i : Nat) (P : List (Ms × Value)) (U : Nat → Prop) (l : List Gr), i ≤ n ∧ iv = .int .i64 (i : Int) ∧ PRow w wr b v P ∧ Bg wr b b U l ∧ AllGood (P.map (·.1)) l ∧ P.length ≤ i ∧ Below b w wr) (fun iv _ _ => n - (intOf iv).toNat)
  case atStart => exact ⟨0, [], _, [], Nat.zero_le _, rfl, ⟨own_nil _ _ _ _, by simp⟩, hG2, good_nil _, Nat.le_refl _, hB2⟩
  case round =>
    obtain ⟨i, P, U, l, hi, rfl, hP, hG, hgood, hPi, hB⟩ := hrel
    by_cases hlt : i < n
    · have hil : (i : Int) < (n : Int) := by omega
      have hi0 : (0 : Int) ≤ (i : Int) := by omega
      have hwr := h.below (w' := wr) (by rw [hb]; exact hB)
      obtain ⟨ba, oa, m, X, p, cx, rfl, hm, hMd, d0, d1, d2, d3, d4, d5, d6⟩ := hwr.at_ i hlt
      have hMw : Mdt w m X p cx := by
        obtain ⟨ba', oa', m', X', p', cx', e, hm', hMd', q0, q1, q2, q3, q4, q5, q6⟩ := h.at_ i hlt
        rw [hm] at hm'
        injection hm' with hm'
        subst hm'
        injection e with e
        injection e with e1 e2
        subst e1 e2
        have := (hB.cell (by rw [← hb]; exact cell_lt q6)).trans q6
        rw [d6] at this
        injection this with this
        injection this with t1 t2 t3
        subst t1 t2 t3
        exact hMd'
      have hma : Blk (wr.alloc (.cells (ma m (.slice X p cx)) 24)) wr.heap.size 24 (ma m (.slice X p cx)) := Blk.new wr _ _ rfl
      have hba : Below wr.heap.size wr (wr.alloc (.cells (ma m (.slice X p cx)) 24)) := (Below.refl _ _).alloc (Nat.le_refl _) _
      have hMa := hMd.below hba
      have hPa := hP.keep hba
      obtain ⟨hG', hvb⟩ := hG.apart hP.row (by decide) (by decide) (by decide)
      have hGa := hG'.keep hba
      have hBa : Below b w (wr.alloc (.cells (ma m (.slice X p cx)) 24)) := by rw [← hb]; exact below_step (by rw [hb]; exact hB) hba (Nat.le_refl _)
      have hbl := hG.lt
      have hbwr := hB.size
      have hsa : (wr.alloc (.cells (ma m (.slice X p cx)) 24)).heap.size = wr.heap.size + 1 := by simp
      clear hP hG hG' hMd hwr hB
      go_wp2_with fail
      refine (pack_ _ m X p cx hMa).mono ?_
      obtain ⟨wa, hwa⟩ : ∃ wa, wr.alloc (.cells (ma m (.slice X p cx)) 24) = wa := ⟨_, rfl⟩
      rw [hwa] at hma hba hMa hPa hGa hBa hsa ⊢
      clear d0 d1 d2 d3 d4 d5 d6 hwa
      by_cases hM : MayM m
      · have Hp := Lib.hid (pack_yes hM)
        have hxl := msgB_length m
        have hdl := hM.2.2.2.2.2.2
        obtain ⟨x, hx⟩ : ∃ x, msgB m = x := ⟨_, rfl⟩
        rw [hx] at hxl Hp
        obtain ⟨xn, hxn⟩ : ∃ xn, x.length = xn := ⟨_, rfl⟩
        have Hxn := Lib.hid hxn
        have hx1 : xn ≤ 1300 := by omega
        have Hx := Lib.hid hx
        have HM := Lib.hid hM
        rw [Hp.out.1, Hp.out.2, hxn]
        clear hM hxl hdl hx hxn
        rintro e w5 ⟨v5, rfl, hown5, hb5⟩
        obtain ⟨A5, c5, rfl, hc5, hm5, ha5⟩ := own_form hown5
        unfold maxLen at hm5
        have hG5 := hGa.keep hb5
        have hP5 := hPa.keep hb5
        have hm5' := hma.keep hb5
        have hB5 : Below b w w5 := hBa.trans (hb5.mono hBa.size |>.mono (by omega))
        have hs5 := hb5.size
        have hxb := hown5.lt
        have hb6 : Below w5.heap.size w5 (w5.alloc (.cells #[.slice A5 xn c5] 22)) := (Below.refl _ _).alloc (Nat.le_refl _) _
        have hm6 : Blk (w5.alloc (.cells #[.slice A5 xn c5] 22)) w5.heap.size 22 #[.slice A5 xn c5] := Blk.new w5 _ _ rfl
        have hG6 := hG5.keep hb6
        have hP6 := hP5.keep hb6
        have hm6' := hm5'.keep hb6
        have hx6 := own_keep hown5 hb6
        have hs6 : (w5.alloc (.cells #[.slice A5 xn c5] 22)).heap.size = w5.heap.size + 1 := by simp
        have hB6 : Below b w (w5.alloc (.cells #[.slice A5 xn c5] 22)) := hB5.trans (hb6.mono (by omega))
        have hPt := bput_ (w5.alloc (.cells #[.slice A5 xn c5] 22)) b b _ l hG6 (some ⟨w5.heap.size, 0, none⟩) 1 1 [x] (fun w3 hf => by
          refine bss_one (blk_fu hm6 hf (fun e => e.elim (by omega) (fun e => by omega))) (bs_own (own_fu hx6 hf (fun q hq e => by have := hxb q hq; exact e.elim (fun e => by omega) (fun e => by omega)))) hc5 (by omega)) (Nat.le_refl _) (by omega) (by have := Hxn.out; simp; omega)
        clear hma hGa hPa hBa hba hMa hown5 hG5 hP5 hm5' hb5 hB5 hb6 hm6 hx6
        go_wp2_with fail
        refine hPt.mono ?_
        obtain ⟨w6, hw6⟩ : ∃ w6, w5.alloc (.cells #[.slice A5 xn c5] 22) = w6 := ⟨_, rfl⟩
        rw [hw6] at hG6 hP6 hm6' hs6 hB6 ⊢
        by_cases hone : putN l [x] = 1
        · rw [hone]
          rintro e w7 ⟨rfl, hG7, hF7⟩
          have hP7 := hP6.fu hF7 (fun g hg e => e.elim (fun e => hvb (e ▸ hg)) (fun e => e.2.2.1 hg))
          have hB7 : Below b w w7 := hB6.trans (hF7.below (by omega) (fun j hj => hj.elim (fun e => by omega) (fun e => e.1)))
          have hm7 := blk_fu hm6' hF7 (fun e => e.elim (fun e => by omega) (fun e => by omega))
          obtain ⟨d0, d1, d2, d3, d4, d5, d6⟩ := ma_blk hm7
          have hs7 := hF7.size
          have hgood2 : AllGood ((P ++ [((m, Value.slice X p cx) : Ms × Value)]).map (·.1)) (putS l [x]) := by
            rw [List.map_append, ← Hx.out]
            exact good_put hgood HM.out
          obtain ⟨np, hnp⟩ : ∃ np, P.length = np := ⟨_, rfl⟩
          have Hnp := Lib.hid hnp
          have hrow7 := hP7.row
          rw [hnp] at hrow7 hPi
          obtain ⟨A1, c1, rfl, hc1, hm1, ha1⟩ := own_form hrow7
          have hbc : Below w7.heap.size w7 (w7.alloc (.cells (ma m (.slice X p cx)) 24)) := (Below.refl _ _).alloc (Nat.le_refl _) _
          have hrow8 := own_keep hrow7 hbc
          have hG8 := hG7.keep hbc
          have hB8 : Below b w (w7.alloc (.cells (ma m (.slice X p cx)) 24)) := hB7.trans (hbc.mono (by omega))
          have hnew : Rd (w7.alloc (.cells (ma m (.slice X p cx)) 24)) (some ⟨w7.heap.size, 0, none⟩) 7 1 (mv (m, .slice X p cx)) := Rd.new w7 (ma m (.slice X p cx)) _ (0, 0) (sz := 7) (n := 1) rfl
          have hs8 : (w7.alloc (.cells (ma m (.slice X p cx)) 24)).heap.size = w7.heap.size + 1 := by simp
          have HE := Lib.hid hP7.each
          have hb8 : b ≤ (w7.alloc (.cells (ma m (.slice X p cx)) 24)).heap.size := by omega
          clear hG6 hP6 hm6' hPt hF7 hB6 hm7 hP7 hG7 hB7
          go_wp2_with (first
            | (at_builtin
               refine wpList_app _ rfl (.tmp 48) (.tmp 50) _ rfl b 24 i0 _ 7 72 Try.underlying61 hi0' hz0 hz1 Hz.out rfl (by omega) (.slice A1 np c1) np (mvs P) rfl hrow8 _ 1 1 (mv (m, .slice X p cx)) rfl (by simp) hnew (mv_one _ _ _ _) (by unfold maxLen; omega) (by omega) hb8 ?_
               intro v9 w9 hown9 hg9 hat9
               obtain ⟨U9, hG9⟩ := hG8.beside hrow8 (by decide) (by decide) (by decide) hg9
               have hB9 : Below b w w9 := hB8.grown hg9 (by omega) (fun j e => (hrow8.lt j e).1)
               have hP9 : PRow w w9 b v9 (P ++ [(m, .slice X p cx)]) := ⟨by
                 rw [mvs_snoc, List.length_append, List.length_singleton, Hnp.out]; exact hown9, fun p' hp' => by
                 rcases List.mem_append.1 hp' with hp' | hp'
                 · exact HE.out p' hp'
                 · rw [List.mem_singleton.1 hp']; exact ⟨X, p, cx, rfl, hMw⟩⟩
               clear hown9 hg9 hat9 hG8 hB8 hrow8 hnew))
          go_roundw
          case rel => exact ⟨i + 1, P ++ [(m, .slice X p cx)], U9, _, by omega, by go_num, hP9, hG9, hgood2, by rw [List.length_append, Hnp.out]; simp; omega, hB9⟩
          case measure => simp [intOf]; omega
        · have h0 : putN l [x] = 0 := by unfold putN at hone ⊢; simp at hone ⊢; omega
          rw [h0]
          have hno := put_none (l := l) (b := x) hone
          rw [hno]
          rintro e w7 ⟨rfl, hG7, hF7⟩
          have hP7 := hP6.fu hF7 (fun g hg e => e.elim (fun e => hvb (e ▸ hg)) (fun e => e.2.2.1 hg))
          have hB7 : Below b w w7 := hB6.trans (hF7.below (by omega) (fun j hj => hj.elim (fun e => by omega) (fun e => e.1)))
          clear hG6 hP6 hm6' hPt hF7 hB6
          go_wp2
          go_roundw
          case rel => exact ⟨i + 1, P, _, l, by omega, by go_num, hP7, hG7, hgood, by omega, hB7⟩
          case measure => simp [intOf]; omega
      · have Hp := Lib.hid (pack_no hM)
        rw [Hp.out.1, Hp.out.2]
        clear hM
        rintro e w5 ⟨v5, rfl, hown5, hb5⟩
        have hG5 := hGa.keep hb5
        have hP5 := hPa.keep hb5
        have hB5 : Below b w w5 := hBa.trans (hb5.mono (by omega))
        obtain ⟨A5, c5, rfl, hc5, hm5, ha5⟩ := own_form hown5
        clear hma hba hMa hPa hGa hBa hown5 hb5
        go_wp2
        go_roundw
        case rel => exact ⟨i + 1, P, _, l, by omega, by go_num, hP5, hG5, hgood, by omega, hB5⟩
        case measure => simp [intOf]; omega
    · obtain rfl : i = n := by omega
      obtain ⟨A1, c1, rfl, hc1, hm1, ha1⟩ := own_form hP.row
      obtain ⟨np, hnp⟩ : ∃ np, P.length = np := ⟨_, rfl⟩
      have Hnp := Lib.hid hnp
      rw [hnp] at hP hc1 ha1 hPi ⊢
      clear hnp hi hlt hG2 hB2
      go_wp2_with fail
      go_loopw [55] (fun iv wq => ∃ (j : Nat) (U : Nat → Prop) (l : List Gr), j ≤ k ∧ iv = .int .i64 (j : Int) ∧ PRow w wq b (.slice A1 np c1) P ∧ Bg wq b b U l ∧ AllGood (P.map (·.1)) l ∧ Below b w wq) (fun iv _ => k - (intOf iv).toNat)
      case atStart => exact ⟨0, _, _, Nat.zero_le _, rfl, hP, hG, hgood, hB⟩
      case round =>
        rename_i w0
        clear hP hG hgood hB
        obtain ⟨j, U, l, hj, rfl, hP, hG, hgood, hB⟩ := hrel
        by_cases hlt : j < k
        · have hjl : (j : Int) < (k : Int) := by omega
          have hj0 : (0 : Int) ≤ (j : Int) := by omega
          obtain ⟨bs, os, a, X, m, cc, rfl, ha, hAd, c0, c1', c2, c3, c4⟩ := (HS.out.below (w' := wr) (by rw [hb]; exact hB)).at_ j hlt
          obtain ⟨hkd0, hai, haz, -, -, -, -, -⟩ := hAd
          have hma : Blk (wr.alloc (.cells (aa a (.slice X m cc)) 48)) wr.heap.size 48 (aa a (.slice X m cc)) := Blk.new wr _ _ rfl
          have hba : Below wr.heap.size wr (wr.alloc (.cells (aa a (.slice X m cc)) 48)) := (Below.refl _ _).alloc (Nat.le_refl _) _
          have hPa := hP.keep hba
          obtain ⟨hG', hvb⟩ := hG.apart hP.row (by decide) (by decide) (by decide)
          have hGa := hG'.keep hba
          have hbwr := hB.size
          have hbl := hG.lt
          have hBa : Below b w (wr.alloc (.cells (aa a (.slice X m cc)) 48)) := hB.trans (hba.mono (by omega))
          have hsa : (wr.alloc (.cells (aa a (.slice X m cc)) 48)).heap.size = wr.heap.size + 1 := by simp
          clear hP hG hG' hB hba
          have e0 := hma.cell (j := 0) (u := .int .u8 (a.kd : Int)) rfl
          have e1 := hma.cell (j := 1) (u := .int .i64 a.i) rfl
          have e2 := hma.cell (j := 2) (u := .int .i64 a.at_) rfl
          have e3 := hma.cell (j := 3) (u := .int .u8 (a.y.toNat : Int)) rfl
          have hcs : a.kd % 4 = 0 ∨ a.kd % 4 = 1 ∨ a.kd % 4 = 2 ∨ a.kd % 4 = 3 := by omega
          rcases hcs with q | q | q | q
          · have q4 := mod4 q
            go_wp2
            go_roundw
            case rel => exact ⟨j + 1, _, l, by omega, by go_num, hPa, hGa, hgood, hBa⟩
            case measure => simp [intOf]; omega
          · have q4 := mod4 q
            go_wp2_with fail
            refine (take_ _ b b _ l hGa a.i).mono ?_
            obtain ⟨wa, hwa⟩ : ∃ wa, wr.alloc (.cells (aa a (.slice X m cc)) 48) = wa := ⟨_, rfl⟩
            rw [hwa] at hma hPa hGa hBa hsa ⊢
            rintro e w7 ⟨v7, hT⟩
            by_cases hh : hasB l a.i = true
            · obtain ⟨t1, t2, t3⟩ := take_of hh
              have hgm := get_mem hh
              have hGd := hgood _ hgm
              have hfar := hGa.far _ hgm
              rw [t1, t2] at hT
              obtain ⟨rfl, hown7, hG7, hU7, hF7⟩ := hT
              have hgood7 := good_take hgood a.i
              have hP7 := hPa.fu hF7 (fun g hg e => e.elim (fun e => hvb (e ▸ hg)) (fun e => e.2.2.1 hg))
              have hB7 : Below b w w7 := hBa.trans (hF7.below (by omega) (fun j hj => hj.elim (fun e => by omega) (fun e => e.1)))
              obtain ⟨⟨x, sp⟩, hg⟩ : ∃ g, getG l a.i = g := ⟨_, rfl⟩
              rw [hg] at hGd hfar hown7 ⊢
              simp only at hfar hown7 ⊢
              obtain ⟨xn, hxn⟩ : ∃ n, x.length = n := ⟨_, rfl⟩
              have Hxn := Lib.hid hxn
              obtain ⟨A7, c7, rfl, hc7, hm7, ha7⟩ := own_form hown7
              rw [hxn] at hown7 hc7 ha7 hfar hG7 hU7 ⊢
              unfold maxLen at hm7
              have hs7 := hF7.size
              have HGd := Lib.hid hGd
              clear hPa hGa hBa hF7 hma t1 t2 t3 hgm hGd hg hxn hh hgood c0 c1' c2 c3 c4 e0 e1 e2 e3 hwa
              go_wp2_with fail
              refine (unpack_ _ A7 xn c7 x (bs_own hown7) ha7 hc7 (by omega) hfar).mono ?_
              rintro e w8 hUn
              obtain ⟨Y, p, q', rfl, hM8, -, hb8⟩ := hUn.got (by rw [Hxn.out]; exact hfar)
              obtain ⟨u, hu⟩ : ∃ u, unV x = u := ⟨_, rfl⟩
              obtain ⟨ue, hue⟩ : ∃ e, unE x = e := ⟨_, rfl⟩
              have Hu := Lib.hid hu
              have Hue := Lib.hid hue
              rw [hu] at hM8
              rw [hu, hue]
              have hP8 := hP7.keep hb8
              have hG8 := hG7.keep hb8
              have hs8 := hb8.size
              have hB8 : Below b w w8 := hB7.trans (hb8.mono (by have := hB7.size; omega))
              have hb9 : Below w8.heap.size w8 (w8.alloc (.cells (ma u (.slice Y p q')) 24)) := (Below.refl _ _).alloc (Nat.le_refl _) _
              have hm9 : Blk (w8.alloc (.cells (ma u (.slice Y p q')) 24)) w8.heap.size 24 (ma u (.slice Y p q')) := Blk.new w8 _ _ rfl
              have hP9 := hP8.keep hb9
              have hG9 := hG8.keep hb9
              have hM9 := hM8.below hb9
              have hB9 : Below b w (w8.alloc (.cells (ma u (.slice Y p q')) 24)) := hB8.trans (hb9.mono (by have := hB8.size; omega))
              obtain ⟨gm, hgm⟩ : ∃ g, w8.heap.size = g := ⟨_, rfl⟩
              obtain ⟨w9, hw9⟩ : ∃ w9, w8.alloc (.cells (ma u (.slice Y p q')) 24) = w9 := ⟨_, rfl⟩
              rw [hw9] at hm9 hP9 hG9 hM9 hB9
              rw [hgm] at hm9
              clear hUn hu hue hM8 hb8 hP7 hP8 hG7 hG8 hB7 hB8 hb9 hown7
              go_wp2_with fail
              have hbw9 := hB9.size
              go_loopw [79, 18] (fun iv wv wq => ∃ r : Nat, r ≤ np ∧ iv = .int .i64 (r : Int) ∧ wv = .bool (anyM u (P.take r)) ∧ Below w9.heap.size w9 wq) (fun iv _ _ => np - (intOf iv).toNat)
              case atStart => exact ⟨0, Nat.zero_le _, rfl, by simp [anyM], Below.refl _ _⟩
              case round =>
                obtain ⟨r, hr, rfl, rfl, hbq⟩ := hrel
                have hPr := hP9.keep hbq
                have hmr := hm9.keep hbq
                have hBr : Below b w wr := hB9.trans (hbq.mono (by omega))
                by_cases hrlt : r < np
                · have hri : (r : Int) < (np : Int) := by omega
                  have hr0 : (0 : Int) ≤ (r : Int) := by omega
                  have hrP : r < P.length := by rw [Hnp.out]; exact hrlt
                  obtain ⟨gp, rfl, f0, f1, f2, f3, f4, f5, f6⟩ := hPr.at_ hrP
                  obtain ⟨Z, zn, zc, ez, hZ⟩ := hP9.each _ (List.getElem_mem hrP)
                  rw [ez] at f6
                  have hT : anyM u (P.take (r + 1)) = (anyM u (P.take r) || decide (u = P[r].1)) := by rw [List.take_succ_eq_append_getElem hrP, anyM_snoc]
                  have HT := Lib.hid hT
                  obtain ⟨y, hy⟩ : ∃ y, P[r].1 = y := ⟨_, rfl⟩
                  rw [hy] at f0 f1 f2 f3 f4 f5 hZ
                  have hZr := hZ.below (w' := wr) (by rw [hb]; exact hBr)
                  have hbx : Below wr.heap.size wr (wr.alloc (.cells (ma y (.slice Z zn zc)) 24)) := (Below.refl _ _).alloc (Nat.le_refl _) _
                  have hmx : Blk (wr.alloc (.cells (ma y (.slice Z zn zc)) 24)) wr.heap.size 24 (ma y (.slice Z zn zc)) := Blk.new wr _ _ rfl
                  have hmr2 := hmr.keep hbx
                  have hbq2 := hbq.trans (hbx.mono hbq.size)
                  have hSm := rsame_ (wr.alloc (.cells (ma y (.slice Z zn zc)) 24)) u y Y Z p q' zn zc ((hM9.below hbq).below hbx) (hZr.below hbx)
                  obtain ⟨g0, g1, g2, g3, g4, g5, g6⟩ := ma_blk hmr2
                  obtain ⟨o0, o1, o2, o3, o4, o5, o6⟩ := ma_blk hmx
                  have Hy := Lib.hid hy
                  clear hPr hmr hmr2 hmx hbx hZr hT hy hZ ez hBr hM9
                  cases hw : anyM u (P.take r) with
                  | true =>
                    have HW := Lib.hid (show anyM u (P.take (r + 1)) = true by rw [HT.out, hw]; rfl)
                    clear hSm hw
                    go_wp2
                    go_roundw
                    case rel => exact ⟨r + 1, by omega, by go_num, by rw [HW.out], hbq2⟩
                    case measure => simp [intOf]; omega
                  | false =>
                    have HW := Lib.hid (show anyM u (P.take (r + 1)) = decide (u = y) by rw [HT.out, hw, Hy.out]; rfl)
                    clear hw
                    go_wp2_with fail
                    refine hSm.mono ?_
                    rintro e wv ⟨rfl, hbv⟩
                    go_wp2
                    go_roundw
                    case rel => exact ⟨r + 1, by omega, by go_num, by rw [HW.out], below_step hbq2 hbv (Nat.le_refl _)⟩
                    case measure => simp [intOf]; omega
                · obtain rfl : r = np := by omega
                  rw [List.take_of_length_le (by rw [Hnp.out]; exact Nat.le_refl _)]
                  have hGr := hG9.keep hbq
                  cases sp with
                  | true =>
                    have hE : ue = 4 := by rw [← Hue.out]; exact HGd.out.bad rfl
                    subst hE
                    obtain ⟨wv, hwv⟩ : ∃ wv, anyM u P = wv := ⟨_, rfl⟩
                    rw [hwv]
                    clear hwv hbq hmr
                    go_wp2
                    go_roundw
                    case rel => exact ⟨j + 1, _, _, by omega, by go_num, hPr, hGr, hgood7, hBr⟩
                    case measure => simp [intOf]; omega
                  | false =>
                    obtain ⟨hE, hmem⟩ := HGd.out.un rfl
                    rw [Hu.out] at hmem
                    have hE : ue = 0 := by rw [← Hue.out]; exact hE
                    subst hE
                    rw [anyM_mem hmem]
                    clear hbq hmr hmem
                    go_wp2
                    go_roundw
                    case rel => exact ⟨j + 1, _, _, by omega, by go_num, hPr, hGr, hgood7, hBr⟩
                    case measure => simp [intOf]; omega
            · have hh : hasB l a.i = false := by simpa using hh
              obtain ⟨t1, t2, t3⟩ := take_no hh
              rw [t1, t2, t3] at hT
              obtain ⟨rfl, hown7, hG7, hU7, hF7⟩ := hT
              have hP7 := hPa.fu hF7 (fun g hg e => e.elim (fun e => hvb (e ▸ hg)) (fun e => e.2.2.1 hg))
              have hB7 : Below b w w7 := hBa.trans (hF7.below (by omega) (fun j hj => hj.elim (fun e => by omega) (fun e => e.1)))
              obtain ⟨A7, c7, rfl, hc7, hm7, ha7⟩ := own_form hown7
              clear hPa hGa hBa hF7 hma t1 t2 t3 hh
              go_wp2
              go_roundw
              case rel => exact ⟨j + 1, _, _, by omega, by go_num, hP7, hG7, hgood, hB7⟩
              case measure => simp [intOf]; omega
          · have q4 := mod4 q
            go_wp2_with fail
            refine (twice_ _ b b _ l hGa a.i).mono ?_
            rintro e w7 ⟨rfl, hG7, hF7⟩
            have hP7 := hPa.fu hF7 (fun g hg e => e.elim (fun e => hvb (e ▸ hg)) (fun e => e.2.2.1 hg))
            have hB7 : Below b w w7 := hBa.trans (hF7.below (by omega) (fun j hj => hj.elim (fun e => by omega) (fun e => e.1)))
            clear hPa hGa hBa hF7 hma
            go_wp2
            go_roundw
            case rel => exact ⟨j + 1, _, _, by omega, by go_num, hP7, hG7, good_twice hgood _, hB7⟩
            case measure => simp [intOf]; omega
          · have q4 := mod4 q
            go_wp2_with fail
            refine (turn_ _ b b _ l hGa a.i a.at_ a.y haz).mono ?_
            rintro e w7 ⟨rfl, hG7, hF7⟩
            have hP7 := hPa.fu hF7 (fun g hg e => e.elim (fun e => hvb (e ▸ hg)) (fun e => e.2.2.1 hg))
            have hB7 : Below b w w7 := hBa.trans (hF7.below (by omega) (fun j hj => hj.elim (fun e => by omega) (fun e => e.1)))
            clear hPa hGa hBa hF7 hma
            go_wp2
            go_roundw
            case rel => exact ⟨j + 1, _, _, by omega, by go_num, hP7, hG7, good_turn hgood _ _ _, hB7⟩
            case measure => simp [intOf]; omega
        · go_wp2
          go_ret
          exact ⟨rfl, by rw [hb]; exact hB⟩
end
end Net
open Net

set_option maxRecDepth 100000 in
theorem netTaken_lifted (os : Os) (started : os.Started) (H : Type) (enc : TypeId × Value → H) :
    ReturnsInHanded {} Try.checked os 7 .any (Rows.netTakenSpec.pre6 enc Try.prog Try.f7 Rows.netTakenRow.domain false) (Rows.netTakenSpec.post enc Try.prog Try.f7 false true false false) := by
  refine law_lifted (C := Try.checked) (tb := 4) own_ started (by kernel_rfl) Try.func7
    (ChangeSpec.witness6 (enc := enc) (C := Try.checked) false ⟨#[], #[.slice none 0 0, .slice none 0 0], []⟩ 8 (by kernel_rfl) (by kernel_rfl) (by kernel_rfl) (by kernel_rfl))
    rfl rfl Try.underlying4 laidOut_ (by kernel_rfl) (fun ds h => by match ds, h with | [_, _], _ => rfl) ?_
  intro W base args ds p hval0 hA0 _ hsz0
  have hval : ∀ (j : Nat) t v, Try.f7.params[j]? = some t → args[j]? = some v → Value.okWide Try.prog W .any base t v := hval0
  have hA : DataW.TrodAll enc Try.prog W 0 (fun _ => true) true Try.f7.params.toList args.toList ds p := hA0
  have hsz : (DataW.weightsEach Try.prog Try.f7.params.toList ds).all (· ≤ reachBytes) = true := hsz0
  clear hval0 hA0 hsz0
  rw [Try.params7] at hA hval hsz
  obtain ⟨v0, v1, d0, d1, p0, p1, rfl, rfl, rfl, h0, h1⟩ := trodAll_two hA
  obtain ⟨A0, n0, c0, xs0, rfl, r0, b0⟩ := arg_slice ops_mss Try.underlying61 (hval 0 _ v0 rfl rfl) h0 (weight_at hsz (j := 0) rfl rfl)
  obtain ⟨A1, n1, c1, xs1, rfl, r1, b1⟩ := arg_slice ops_acs Try.underlying40 (hval 1 _ v1 rfl rfl) h1 (weight_at hsz (j := 1) rfl rfl)
  exact by
    obtain ⟨hm, hmc, hmb⟩ := mss_of r0
    obtain ⟨ha, hac, hab⟩ := acs_of r1
    exact taken_walk W A0 n0 c0 _ hm hmc hmb A1 n1 c1 _ ha hac hab

/-- NetTaken, for every input: the statement as it was given. -/
theorem netTaken_holds : Rows.NetTakenSaid :=
  OpenClaim.holds_of_wide 7 Try.f7 rfl rfl rfl rfl rfl rfl rfl ⟨rfl, rfl, rfl, rfl, rfl⟩ rfl rfl rfl rfl rfl (by kernel_rfl) Try.func7 (by kernel_rfl)
    (of_decide_eq_true (by kernel_rfl)) (by unfold Func.isWrapper; first | (rw [if_pos (by decide +kernel)]; kernel_rfl) | (rw [if_neg (by decide +kernel)]; exact ⟨rfl, rfl⟩))
    (fun os started H enc _ => netTaken_lifted os started H enc)
end Go.Proofs.Ytallbhdfbkkjkaa
