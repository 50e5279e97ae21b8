/- Layer 17: the document's Hear -/
import Derived.Test.YtpjbeodnalgkfaaBarRh
set_option linter.all false
namespace Go.Proofs.Ytpjbeodnalgkfaa
open Go.RowKit
namespace Bar
theorem all_take {l : List Bool} {n : Nat} (hn : l.length = n) (h : ∀ j, j < n → l[j]? = some true) : l.all (fun b => b) = true := by
  rw [List.all_eq_true]
  intro x hx
  obtain ⟨i, hi, rfl⟩ := List.getElem_of_mem hx
  have := h i (by omega)
  rw [List.getElem?_eq_getElem hi] at this
  injection this
theorem all_not {l : List Bool} {i : Nat} (h : l[i]? = some false) : ¬ l.all (fun b => b) = true := by
  intro q
  rw [List.all_eq_true] at q
  have := q false (List.mem_of_getElem? h)
  cases this
section
variable {w : World} {b g n1 c1 n2 c2 : Nat} {c : Co} {U : Nat → Prop} {A1 A2 : Option Addr}
theorem RcX.setA (h : RcX w b U c g A1 n1 c1 A2 n2 c2) (i : Nat) : RcX (w.setCell ⟨g, i, none⟩ (.bool true)) b U (setC c (i : Int)) g A1 n1 c1 A2 n2 c2 ∧ Fu (fun k => k = g) w (w.setCell ⟨g, i, none⟩ (.bool true)) := by
  have hf : Fu (fun k => k = g) w (w.setCell ⟨g, i, none⟩ (.bool true)) := fu_set (S := fun k => k = g) (Fu.refl _ _) _ _ _ rfl
  have hbg : ¬ b = g := fun e => h.out (e ▸ h.gU)
  refine ⟨⟨?_, ?_, ⟨bs_fu h.cm.is hf (fun a e => h.ap1 a e), h.cm.cap, h.cm.top, fun a e => ⟨(h.cm.rowU a e).1, Nat.lt_of_lt_of_le (h.cm.rowU a e).2 hf.size⟩⟩, ⟨bs_fu h.ab.is hf (fun a e => h.ap2 a e), h.ab.cap, h.ab.top, fun a e => ⟨(h.ab.rowU a e).1, Nat.lt_of_lt_of_le (h.ab.rowU a e).2 hf.size⟩⟩, h.nil1, h.nil2, h.gU, h.ap1, h.ap2, h.out⟩, hf⟩
  · have := blk_fu h.blk hf hbg
    simpa [setC] using this
  · have := h.ans.setCell i (.bool true)
    rw [bls_set] at this
    simpa [setC] using this
end
section
variable (w : World)
set_option maxRecDepth 100000 in
set_option maxHeartbeats 4000000 in
theorem rhear_ (b : Nat) (U : Nat → Prop) (c : Co) (h : Rc w b U c) (hF : Few c) (hph : 0 ≤ c.ph ∧ c.ph ≤ 4) (a k x : Int) : Calls Try.prog 27 #[.pointer (some ⟨b, 0, none⟩), .int .i64 a, .int .i64 k, .int .i64 x] w fun r w' => r = .returned (.int .i64 (hearE c a k x)) ∧ RcA w w' b U (hearS c a k x) := by
  have HSm := Lib.hid (RcA.same h)
  have hl := h.lt
  have hn16 := hF.2
  have HT := fun p => rturn_ w b U c h hn16 p
  obtain ⟨g, A1, n1, c1, A2, n2, c2, h⟩ := h
  obtain ⟨d0, d1, d2, d3, d4⟩ := h.cells
  obtain ⟨n, hnn⟩ : ∃ n, c.ans.length = n := ⟨_, rfl⟩
  have HB := Lib.hid (show hearE c a k x = if a < 0 ∨ (n : Int) ≤ a ∨ k < 11 ∨ 14 < k then 1 else if c.ph = 0 ∨ x ≠ c.id then 11 else 0 by rw [← hnn]; rfl)
  rw [hnn] at d0
  have HN := Lib.hid hnn
  have H := Lib.hid h
  have HF := Lib.hid hF
  have hnb : n ≤ 16 := by omega
  clear h hnn d3 d4 hF
  by_cases a0 : a < 0
  · have HE := Lib.hid (show hearE c a k x = 1 by rw [HB.out, if_pos (.inl a0)])
    have HS2 := Lib.hid (show hearS c a k x = c by unfold hearS; rw [HE.out]; rfl)
    go_enter Try.func27, Try.ntmps27
    go_wp2
    go_ret
    rw [HE.out, HS2.out]
    exact ⟨rfl, HSm.out⟩
  obtain ⟨i, rfl⟩ : ∃ i : Nat, a = (i : Int) := ⟨a.toNat, by omega⟩
  by_cases a1 : (n : Int) ≤ (i : Int)
  · have HE := Lib.hid (show hearE c (i : Int) k x = 1 by rw [HB.out, if_pos (.inr (.inl a1))])
    have HS2 := Lib.hid (show hearS c (i : Int) k x = c by unfold hearS; rw [HE.out]; rfl)
    go_enter Try.func27, Try.ntmps27
    go_wp2
    go_ret
    rw [HE.out, HS2.out]
    exact ⟨rfl, HSm.out⟩
  by_cases k0 : k < 11
  · have HE := Lib.hid (show hearE c (i : Int) k x = 1 by rw [HB.out, if_pos (.inr (.inr (.inl k0)))])
    have HS2 := Lib.hid (show hearS c (i : Int) k x = c by unfold hearS; rw [HE.out]; rfl)
    go_enter Try.func27, Try.ntmps27
    go_wp2
    go_ret
    rw [HE.out, HS2.out]
    exact ⟨rfl, HSm.out⟩
  by_cases k1 : 14 < k
  · have HE := Lib.hid (show hearE c (i : Int) k x = 1 by rw [HB.out, if_pos (.inr (.inr (.inr k1)))])
    have HS2 := Lib.hid (show hearS c (i : Int) k x = c by unfold hearS; rw [HE.out]; rfl)
    go_enter Try.func27, Try.ntmps27
    go_wp2
    go_ret
    rw [HE.out, HS2.out]
    exact ⟨rfl, HSm.out⟩
  have NA : ¬ ((i : Int) < 0 ∨ (n : Int) ≤ (i : Int) ∨ k < 11 ∨ 14 < k) := fun q => by omega
  have hB2 := HB.out
  rw [if_neg NA] at hB2
  have HB2 := Lib.hid hB2
  clear hB2 NA HB
  by_cases p0 : c.ph = 0
  · have t0 : (c.ph == 0) = true := by simpa using p0
    have HE := Lib.hid (show hearE c (i : Int) k x = 11 by rw [HB2.out, if_pos (.inl p0)])
    have HS2 := Lib.hid (show hearS c (i : Int) k x = c by unfold hearS; rw [HE.out]; rfl)
    clear p0
    go_enter Try.func27, Try.ntmps27
    go_wp2
    go_ret
    rw [HE.out, HS2.out]
    exact ⟨rfl, HSm.out⟩
  have t0 : (c.ph == 0) = false := by simpa using p0
  by_cases x0 : x = c.id
  case neg =>
    have t1 : (x != c.id) = true := by simpa using x0
    have HE := Lib.hid (show hearE c (i : Int) k x = 11 by rw [HB2.out, if_pos (.inr x0)])
    have HS2 := Lib.hid (show hearS c (i : Int) k x = c by unfold hearS; rw [HE.out]; rfl)
    clear p0 x0
    go_enter Try.func27, Try.ntmps27
    go_wp2
    go_ret
    rw [HE.out, HS2.out]
    exact ⟨rfl, HSm.out⟩
  have t1 : (x != c.id) = false := by simpa using x0
  have HE := Lib.hid (show hearE c (i : Int) k x = 0 by rw [HB2.out, if_neg (fun q => q.elim p0 (fun q => q x0))])
  have HS := Lib.hid (show hearS c (i : Int) k x = if c.ph < 3 ∧ k = 14 then turnC c 4 else if k ≠ wantC c then c else if (setC c (i : Int)).ans.all (fun b => b) then goOn (setC c (i : Int)) else setC c (i : Int) by unfold hearS; rw [HE.out]; rfl)
  clear p0 x0 HB2
  have hpw : IntKind.i64.wrap (c.ph + 10) = c.ph + 10 := by rw [IntKind.wrap_i64]; omega
  have hpw1 : IntKind.i64.wrap (c.ph + 1) = c.ph + 1 := by rw [IntKind.wrap_i64]; omega
  have hii : (i : Int) < (n : Int) := by omega
  have hi0 : (0 : Int) ≤ (i : Int) := by omega
  have hin : i < n := by omega
  obtain ⟨W, hW⟩ : ∃ W, w.setCell ⟨g, i, none⟩ (.bool true) = W := ⟨_, rfl⟩
  obtain ⟨hX, hFW⟩ := H.out.setA i
  rw [hW] at hX hFW
  have f0 := H.out.ans.free i
  obtain ⟨y0, hy0⟩ : ∃ y, c.ans[i]? = some y := ⟨_, List.getElem?_eq_getElem (by rw [HN.out]; exact hin)⟩
  have fy : w.cell? ⟨g, i, none⟩ = some (.bool y0) := H.out.ans.cell (bls_at hy0)
  obtain ⟨e0, e1, e2, _, _⟩ := hX.cells
  have hnW : (setC c (i : Int)).ans.length = n := by simp [setC, HN.out]
  rw [hnW] at e0
  have HX := Lib.hid hX
  have HFW := Lib.hid hFW
  have HnW := Lib.hid hnW
  have HWW := Lib.hid hW
  have HgU := H.out.gU
  clear hX hFW hnW hy0
  have e1' : W.cell? ⟨b, 1, none⟩ = some (.int .i64 c.ph) := e1
  clear e1 e2
  -- what stands behind the store
  have HAs : RcA w W b U (setC c (i : Int)) := by
    refine ⟨⟨g, A1, n1, c1, A2, n2, c2, HX.out.sub (fun k hk _ => .inl hk) (fun q => q.elim HX.out.out (by omega))⟩, HFW.out.mono (fun k e => .inr (e ▸ HgU))⟩
  have HAs2 := Lib.hid HAs
  have hRW : Rc W b U (setC c (i : Int)) := ⟨g, A1, n1, c1, A2, n2, c2, HX.out⟩
  have HTW := fun p => rturn_ W b U (setC c (i : Int)) hRW (by rw [HnW.out]; omega) p
  have HEW := rends_ W b U (setC c (i : Int)) hRW (by have := HF.out; unfold Few at *; simpa [setC] using this)
  have hWs : W.heap.size = w.heap.size := by rw [← HWW.out]; simp [World.setCell]
  clear hRW HAs
  have Hgo : ∀ w3, RcA W w3 b U (goOn (setC c (i : Int))) → RcA w w3 b U (goOn (setC c (i : Int))) := fun w3 hT =>
    ⟨hT.1.sub (fun k hk _ => hk.imp id (fun q => by omega)) (fun q => q.elim HX.out.out (by omega)), HAs2.out.2.then hT.2 (fun j q => .inl q)⟩
  have HGo := Lib.hid Hgo
  clear Hgo
  have hWs2 := Lib.hid hWs
  clear hWs hW
  by_cases k14 : c.ph < 3 ∧ k = 14
  · have tk : (k == 14) = true := by simpa using k14.2
    have hp3 := k14.1
    have HS2 := Lib.hid (show hearS c (i : Int) k x = turnC c 4 by rw [HS.out, if_pos k14])
    clear k14 HTW HEW e0 e1'
    go_enter Try.func27, Try.ntmps27
    go_wp2_with fail
    refine (HT 4).mono ?_
    rintro r w3 ⟨rfl, hT⟩
    go_wp2
    go_ret
    rw [HE.out, HS2.out]
    exact ⟨rfl, hT⟩
  have hS2 := HS.out
  rw [if_neg k14] at hS2
  have HS3 := Lib.hid hS2
  clear hS2 HS HT
  have hb5 : (3 ≤ c.ph) ∨ (c.ph < 3 ∧ (k == 14) = false) := by
    by_cases q : c.ph < 3
    · exact .inr ⟨q, by simp; exact fun e => k14 ⟨q, e⟩⟩
    · exact .inl (by omega)
  clear k14
  by_cases kw : k = wantC c
  case neg =>
    have HS2 := Lib.hid (show hearS c (i : Int) k x = c by rw [HS3.out, if_pos kw])
    have hw : (3 ≤ c.ph ∧ ¬ c.ph < 3 ∧ (k != 13) = true) ∨ (c.ph < 3 ∧ ¬ 3 ≤ c.ph ∧ (k == 14) = false ∧ (k != c.ph + 10) = true) := by
      unfold wantC at kw
      rcases hb5 with q | ⟨q, q2⟩
      · rw [if_pos q] at kw; exact .inl ⟨q, by omega, by simpa using kw⟩
      · rw [if_neg (by omega)] at kw; exact .inr ⟨q, by omega, q2, by simpa using kw⟩
    clear kw hb5 HTW HEW e0 e1'
    rcases hw with ⟨q1, q2, q3⟩ | ⟨q1, q2, q3, q4⟩
    all_goals (
      go_enter Try.func27, Try.ntmps27
      go_wp2
      go_ret
      rw [HE.out, HS2.out]
      exact ⟨rfl, HSm.out⟩)
  have hS4 := HS3.out
  rw [if_neg (fun q => q kw)] at hS4
  have HS4 := Lib.hid hS4
  clear hS4 HS3
  have hw : (3 ≤ c.ph ∧ ¬ c.ph < 3 ∧ (k != 13) = false) ∨ (c.ph < 3 ∧ ¬ 3 ≤ c.ph ∧ (k == 14) = false ∧ (k != c.ph + 10) = false) := by
    unfold wantC at kw
    rcases hb5 with q | ⟨q, q2⟩
    · rw [if_pos q] at kw; exact .inl ⟨q, by omega, by simpa using kw⟩
    · rw [if_neg (by omega)] at kw; exact .inr ⟨q, by omega, q2, by simpa using kw⟩
  clear kw hb5
  have HGW := Lib.hid (fun (q : c.ph < 3) => (show goOn (setC c (i : Int)) = turnC (setC c (i : Int)) (c.ph + 1) by unfold goOn; rw [if_pos (show (setC c (i : Int)).ph < 3 from q)]; rfl))
  have HGE := Lib.hid (fun (q : ¬ c.ph < 3) => (show goOn (setC c (i : Int)) = endsC (setC c (i : Int)) by unfold goOn; rw [if_neg (show ¬ (setC c (i : Int)).ph < 3 from q)]))
  rcases hw with ⟨q1, q2, q3⟩ | ⟨q1, q2, q3, q4⟩
  all_goals (
    go_enter Try.func27, Try.ntmps27
    go_wp2_with fail
    rw [HWW.out]
    go_loopw [10] (fun jv wr => ∃ j : Nat, j ≤ n ∧ jv = .int .i64 (j : Int) ∧ wr = W ∧ Hid (∀ j', j' < j → (setC c (i : Int)).ans[j']? = some true)) (fun jv _ => n - (intOf jv).toNat)
    case atStart => exact ⟨0, Nat.zero_le _, rfl, rfl, Lib.hid (fun j' hj => by omega)⟩
    case round =>
      obtain ⟨j, hj, rfl, hwr, hall⟩ := hrel
      subst hwr
      by_cases hlt : j < n
      · have hil : (j : Int) < (n : Int) := by omega
        have hj0 : (0 : Int) ≤ (j : Int) := by omega
        obtain ⟨y, hy⟩ : ∃ y, (setC c (i : Int)).ans[j]? = some y := ⟨_, List.getElem?_eq_getElem (by rw [HnW.out]; exact hlt)⟩
        have cy : wr.cell? ⟨g, j, none⟩ = some (.bool y) := HX.out.ans.cell (bls_at hy)
        cases y
        · have HS2 := Lib.hid (show hearS c (i : Int) k x = setC c (i : Int) by rw [HS4.out, if_neg (all_not hy)])
          clear hy
          go_wp2
          go_ret
          rw [HE.out, HS2.out]
          exact ⟨rfl, HAs2.out⟩
        · have hall2 := Lib.hid (show ∀ j', j' < j + 1 → (setC c (i : Int)).ans[j']? = some true from fun j' h' => by
            by_cases e : j' = j
            · rw [e]; exact hy
            · exact hall.out j' (by omega))
          clear hy
          go_wp2
          go_roundw
          case rel => exact ⟨j + 1, by omega, by go_num, by first | trivial | rfl, hall2⟩
          case measure => simp [intOf]; omega
      · have he : j = n := by omega
        subst he
        have hil : ¬ (j : Int) < (j : Int) := by omega
        have HS2 := Lib.hid (show hearS c (i : Int) k x = goOn (setC c (i : Int)) by rw [HS4.out, if_pos (all_take HnW.out hall.out)])
        go_wp2_with fail
        first
          | (refine (HTW _).mono ?_
             rintro r w3 ⟨rfl, hT⟩
             go_wp2
             go_ret
             rw [HE.out, HS2.out]
             exact ⟨rfl, HGo.out _ (by rw [HGW.out q1]; exact hT)⟩)
          | (refine HEW.mono ?_
             rintro r w3 ⟨rfl, hT⟩
             go_wp2
             go_ret
             rw [HE.out, HS2.out]
             exact ⟨rfl, HGo.out _ (by rw [HGE.out q2]; exact hT)⟩))
end
end Bar
end Go.Proofs.Ytpjbeodnalgkfaa
