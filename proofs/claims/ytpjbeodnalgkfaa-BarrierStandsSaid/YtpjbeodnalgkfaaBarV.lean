/- Layer 17: a world is made; whatever happens; what is right. -/
import Derived.Test.YtpjbeodnalgkfaaBarZ
import Derived.Test.YtpjbeodnalgkfaaBarU
import Derived.Test.YtpjbeodnalgkfaaBarQ
import Derived.Test.YtpjbeodnalgkfaaBarS
import Derived.Test.YtpjbeodnalgkfaaBarT
set_option linter.all false
namespace Go.Proofs.Ytpjbeodnalgkfaa
open Go.RowKit
namespace Bar
def BegA (k : Nat) (w w' : World) (r : Ending) : Prop := ∃ wb cg gs av, r = .returned (.tuple #[.pointer (some ⟨wb, 0, none⟩), .bool true]) ∧ WmX w' w.heap.size (fun _ => False) wb cg gs av (.slice none 0 0) (.slice none 0 0) (.slice none 0 0) (wd0 k) ∧ Below w.heap.size w w'
theorem lim0 {k : Nat} (h : k ≤ 5) : Lim 0 (wd0 k) :=
  ⟨by simp [wd0], by simp [wd0], by simp [wd0], fun a ha => by rw [List.eq_of_mem_replicate ha]; simp [ag0], by simp [wd0]; exact h, fun o ho => (by cases ho), fun o ho => (by cases ho), by simp [wd0, co0]⟩
theorem info_ptr : (Try.prog.info? 23).map (fun i => (i.zero, i.size, i.bytes)) = some (some (.pointer none), 1, 8) := by kernel_rfl
theorem ptr_info : ∃ i, Try.prog.info? 23 = some i ∧ i.zero = some (.pointer none) ∧ i.size = 1 ∧ i.bytes = 8 := by
  obtain ⟨i, hi, he⟩ := Option.map_eq_some_iff.1 info_ptr
  simp only [Prod.mk.injEq] at he
  exact ⟨i, hi, he.1, he.2.1, he.2.2⟩
theorem gvs_congr {gs gs' : Nat → Nat} {n : Nat} (h : ∀ i, i < n → gs i = gs' i) : gvs gs n = gvs gs' n := by
  unfold gvs
  refine List.map_congr_left fun i hi => ?_
  rw [h i (List.mem_range.1 hi)]
def someB (l : List Ag) (x : Int) : Bool := l.any fun a => cmB a x
def allB (l : List Ag) (x : Int) : Bool := l.all fun a => cmB a x || a.pr == x
theorem some_succ {l : List Ag} {j : Nat} {a : Ag} (h : l[j]? = some a) (x : Int) : someB (l.take (j + 1)) x = (someB (l.take j) x || cmB a x) := by
  unfold someB
  rw [List.take_add_one, h, List.any_append]
  simp
theorem all_succ {l : List Ag} {j : Nat} {a : Ag} (h : l[j]? = some a) (x : Int) : allB (l.take (j + 1)) x = (allB (l.take j) x && (cmB a x || a.pr == x)) := by
  unfold allB
  rw [List.take_add_one, h, List.all_append]
  simp
/-- What is right of each. -/
theorem right_is {W : Wd} (h : Inv W) (x : Int) : (someB W.g x = true → stC W.c x = 2) ∧ (stC W.c x = 2 → allB W.g x = true) := by
  obtain ⟨h1, h2⟩ := inv_right h x
  refine ⟨fun q => ?_, fun q => ?_⟩
  · obtain ⟨a, ha, hx⟩ := List.any_eq_true.1 q
    exact h1 ⟨a, ha, by simpa [cmB] using hx⟩
  · refine List.all_eq_true.2 fun a ha => ?_
    rcases h2 q a ha with e | e
    · simp [cmB, e]
    · simp [e]
section
variable (w : World)
theorem wdo_ (B : Nat) (P : Nat → Prop) (wb cg : Nat) (gs : Nat → Nat) (av ov xv iv : Value) (W : Wd) (h : WmX w B P wb cg gs av ov xv iv W) {N : Nat} (hL : Lim N W) (hN : N ≤ 100000) (d : Dod) (hF : DoF d) :
    Calls Try.prog 36 #[.pointer (some ⟨wb, 0, none⟩), .agg (doa d)] w fun r w' => WdoA B P wb cg gs av (wDo W d) w w' r := by
  rcases (show d.kd % 8 = 0 ∨ d.kd % 8 = 1 ∨ d.kd % 8 = 2 ∨ d.kd % 8 = 3 ∨ d.kd % 8 = 4 ∨ d.kd % 8 = 5 ∨ d.kd % 8 = 6 ∨ d.kd % 8 = 7 by omega) with c | c | c | c | c | c | c | c
  · exact wdo0_ w B P wb cg gs av ov xv iv W h hL hN d hF c
  · exact wdo1_ w B P wb cg gs av ov xv iv W h hL hN d hF c
  · exact wdo2_ w B P wb cg gs av ov xv iv W h hL hN d hF c
  · exact wdo3_ w B P wb cg gs av ov xv iv W h hL hN d hF c
  · exact wdo4_ w B P wb cg gs av ov xv iv W h hL hN d hF c
  · exact wdo5_ w B P wb cg gs av ov xv iv W h hL hN d hF c
  · exact wdo6_ w B P wb cg gs av ov xv iv W h hL hN d hF c
  · exact wdo7_ w B P wb cg gs av ov xv iv W h hL hN d hF c
set_option maxRecDepth 100000 in
set_option maxHeartbeats 8000000 in
theorem wbegin_ (k0 : Nat) (hk0 : k0 < 256) : Calls Try.prog 35 #[.int .u8 (k0 : Int)] w fun r w' => BegA (k0 % 5 + 1) w w' r := by
  obtain ⟨i0, hi0, hz0, hz1, hz2⟩ := ptr_info
  have Hz := Lib.hid hz2
  clear hz2
  obtain ⟨k, hk⟩ : ∃ k, k0 % 5 + 1 = k := ⟨_, rfl⟩
  have hk1 : 1 ≤ k := by omega
  have hk5 : k ≤ 5 := by omega
  have hkz : (0 : Int) ≤ (k0 : Int) := by omega
  have hkz2 : (k0 : Int) < 256 := by omega
  have hm : (k0 : Int) % 5 + 1 = (k : Int) := by omega
  have hw1 : IntKind.i64.wrap ((k0 : Int) % 5 + 1) = (k : Int) := by rw [hm, IntKind.wrap_i64]; omega
  have hw2 : IntKind.i64.wrap ((k0 : Int) % 5) = (k0 : Int) % 5 := by rw [IntKind.wrap_i64]; omega
  have Hk := Lib.hid hk
  have Hm := Lib.hid hm
  clear hk
  go_enter Try.func35, Try.ntmps35
  go_wp2_with fail
  try rw [Hm.out]
  refine (cnew_ w k hk1 (by omega)).mono ?_
  rintro r w1 ⟨rfl, hC1, hb1, hs1⟩
  obtain ⟨a, ha⟩ : ∃ a, w.heap.size = a := ⟨_, rfl⟩
  have Ha := Lib.hid ha
  rw [ha] at hC1 hb1 hs1 ⊢
  have hbb : Blk (w1.alloc (.cells (wa a (.slice none 0 0) (.slice none 0 0) (.slice none 0 0) (.slice none 0 0)) 72)) (a + 2) 72 (wa a (.slice none 0 0) (.slice none 0 0) (.slice none 0 0) (.slice none 0 0)) := by rw [← hs1]; exact Blk.new w1 _ _ rfl
  have hba : Below w1.heap.size w1 (w1.alloc (.cells (wa a (.slice none 0 0) (.slice none 0 0) (.slice none 0 0) (.slice none 0 0)) 72)) := (Below.refl _ _).alloc (Nat.le_refl _) _
  have hC2 := hC1.keep hba
  have hB2 := hb1.trans (hba.mono (by omega))
  have hs2 : (w1.alloc (.cells (wa a (.slice none 0 0) (.slice none 0 0) (.slice none 0 0) (.slice none 0 0)) 72)).heap.size = a + 3 := by simp [hs1]
  clear hC1 hb1 hba ha hm hw1 hw2
  go_wp2_with fail
  obtain ⟨w2, hw2⟩ : ∃ w2, w1.alloc (.cells (wa a (.slice none 0 0) (.slice none 0 0) (.slice none 0 0) (.slice none 0 0)) 72) = w2 := ⟨_, rfl⟩
  rw [hw2] at hbb hC2 hB2 hs2 ⊢
  clear hw2 hs1
  go_loopw [8, 22] (fun _ iv wr => ∃ (i : Nat) (gs : Nat → Nat) (v : Value), i ≤ k ∧ iv = .int .i64 (i : Int) ∧ Blk wr (a + 2) 72 (wa a v (.slice none 0 0) (.slice none 0 0) (.slice none 0 0)) ∧ Cd wr a (fun _ => False) (co0 k) ∧ (∀ j, j < i → AgX wr (gs j) ag0) ∧ Hid (∀ j l, j < i → l < i → gs j = gs l → j = l) ∧ wr.ownsRow a 23 1 v i (gvs gs i) ∧ Below a w wr ∧ Hid (∀ j, j < i → a ≤ gs j)) (fun _ iv _ => k - (intOf iv).toNat)
  case atStart => exact ⟨0, fun _ => 0, .slice none 0 0, Nat.zero_le _, rfl, hbb, hC2, fun j hj => by omega, Lib.hid (fun j l hj => by omega), own_nil _ _ _ _, hB2, Lib.hid (fun j hj => by omega)⟩
  case round =>
    obtain ⟨i, gs, v, hi, rfl, hb, hC, hA, hinj, hv, hB, hlo⟩ := hrel
    clear hbb hC2 hB2 hs2
    by_cases hlt : i < k
    · have hil : (i : Int) < (k : Int) := by omega
      have hi0n : (0 : Int) ≤ (i : Int) := by omega
      go_wp2_with fail
      refine (anew_ wr).mono ?_
      rintro r w3 ⟨rfl, hA3, hb3, hs3⟩
      obtain ⟨e, he⟩ : ∃ e, wr.heap.size = e := ⟨_, rfl⟩
      have hblt := hb.lt
      have hCl := hC.lt
      have hb' := hb.keep hb3
      have hC' := hC.keep hb3
      have hA' : ∀ j, j < i → AgX w3 (gs j) ag0 := fun j hj => (hA j hj).keep hb3
      have hv' := own_keep hv hb3
      have hal : ∀ j, j < i → gs j + 1 < e := fun j hj => by rw [← he]; exact (hA j hj).lt
      have hBs := hB.size
      have hB' := hB.trans (hb3.mono (by rw [Ha.out] at hBs; exact hBs))
      have hae : a ≤ e := by rw [Ha.out] at hBs; omega
      rw [he] at hA3 hs3 hblt hCl ⊢
      clear hb hC hA hv hB hb3 he hBs
      obtain ⟨AA, cA, rfl, hcA, hmA, hnA⟩ := own_form hv'
      have c1 := hb'.cell (j := 1) (u := .slice AA i cA) rfl
      have f1 := hb'.free 1
      have hba3 : Below w3.heap.size w3 (w3.alloc (.cells #[.pointer (some ⟨e + 1, 0, none⟩)] 23)) := (Below.refl _ _).alloc (Nat.le_refl _) _
      have hoa := own_keep hv' hba3
      have hbka := hb'.keep hba3
      have hrd : Rd (w3.alloc (.cells #[.pointer (some ⟨e + 1, 0, none⟩)] 23)) (some ⟨w3.heap.size, 0, none⟩) 1 1 [.pointer (some ⟨e + 1, 0, none⟩)] := Rd.new w3 #[.pointer (some ⟨e + 1, 0, none⟩)] 23 (0, 0) (sz := 1) (n := 1) rfl
      have hone : ∀ u ∈ [Value.pointer (some ⟨e + 1, 0, none⟩)], u.oneCell' = true := by intro u hu; rw [List.mem_singleton.1 hu]; rfl
      have hbs : a ≤ (w3.alloc (.cells #[.pointer (some ⟨e + 1, 0, none⟩)] 23)).heap.size := by simp; omega
      have hap := blk_ne2 hb' hv' (by decide)
      have z3 : i + 1 ≤ maxLen := by unfold maxLen; omega
      have z4 : (i + 1) * 8 ≤ 140737488355328 := by omega
      have HB3 := Lib.hid hba3
      have hae3 : a ≤ w3.heap.size := by omega
      clear hba3 hs3
      go_wp2_with (first
        | (at_builtin
           go_must (refine wpList_app _ rfl (.tmp 31) (.tmp 33) _ rfl a 23 i0 _ 1 8 Try.underlying69 hi0 hz0 hz1 Hz.out rfl (by omega) _ i _ rfl hoa (some ⟨w3.heap.size, 0, none⟩) 1 1 _ rfl (fun h => by cases h) hrd hone z3 z4 hbs ?_)
           intro v4 w4 hown4 hg4 hat4
           obtain ⟨A4, c4, rfl, hc4, hm4, hn4⟩ := own_form hown4
           have hb4 := hbka.grown hg4 (fun q => hap q.symm)
           have k1 := hb4.cell (j := 1) (u := .slice AA i cA) rfl
           have g1 := hb4.free 1)
        | fail)
      have hF4 : Fu (fun k => (Value.slice AA i cA).ownBlock = some k) w3 w4 := (Fu.ofBelow HB3.out).step hg4 (fun k q => .inl q)
      have hF5 : Fu (fun k => k = a + 2 ∨ (Value.slice AA i cA).ownBlock = some k) w3 (w4.setCell ⟨a + 2, 1, none⟩ (.slice A4 (i + 1) c4)) := fu_set (hF4.mono (fun k q => .inr q)) _ _ _ (.inl rfl)
      have hgs : ∀ j, j < i + 1 → AgX w3 (if j = i then e else gs j) ag0 := fun j hj => by
        by_cases q : j = i
        · rw [if_pos q]; exact hA3
        · rw [if_neg q]; exact hA' j (by omega)
      have hb5 : Blk (w4.setCell ⟨a + 2, 1, none⟩ (.slice A4 (i + 1) c4)) (a + 2) 72 (wa a (.slice A4 (i + 1) c4) (.slice none 0 0) (.slice none 0 0) (.slice none 0 0)) := by
        have := hb4.setCell 1 (.slice A4 (i + 1) c4)
        simpa [wa] using this
      have hap4 := blk_ne2 hb4 hown4 (by decide)
      have hCX := hC'
      obtain ⟨⟨_, _, _, hCx⟩, _⟩ := hCX
      obtain ⟨⟨DM, hDM, _⟩⟩ := hCx.mp
      have hne1 : (Value.slice AA i cA).ownBlock ≠ some a := own_map hv' hDM
      have hne2 : (Value.slice AA i cA).ownBlock ≠ some (a + 1) := blk_ne2 hCx.blk hv' (by decide)
      go_roundw
      case rel =>
        refine ⟨i + 1, fun j => if j = i then e else gs j, .slice A4 (i + 1) c4, by omega, by go_num, hb5, hC'.fu hF5 (fun _ q => q.elim) (fun q => q.elim (by omega) hne1) (fun q => q.elim (by omega) hne2), fun j hj => ?_, Lib.hid (fun j l hj hl => ?_), ?_, ?_, Lib.hid (fun j hj => ?_)⟩
        · have hX := hgs j hj
          obtain ⟨⟨D, hD, _⟩⟩ := hX.set
          have q1 := own_map hv' hD
          have q2 := blk_ne2 hX.blk hv' (by decide)
          refine hX.fu hF5 (fun q => q.elim (fun e2 => ?_) q1) (fun q => q.elim (fun e2 => ?_) q2)
          · exact blk_map hb' hD e2.symm
          · exact blk_ty hb' hX.blk (by decide) e2.symm
        · simp only
          by_cases q1 : j = i
          · by_cases q2 : l = i
            · intro _; omega
            · rw [if_pos q1, if_neg q2]; intro q; have := hal l (by omega); omega
          · by_cases q2 : l = i
            · rw [if_neg q1, if_pos q2]; intro q; have := hal j (by omega); omega
            · rw [if_neg q1, if_neg q2]; exact hinj.out j l (by omega) (by omega)
        · have hv5 := own_grown hown4 (grown_setCell w4 ⟨a + 2, 1, none⟩ (.slice A4 (i + 1) c4)) (fun k hk q => by injection q with q; exact hap4 (hk.trans (congrArg some q)))
          rw [gvs_succ, gvs_congr (gs := fun j => if j = i then e else gs j) (gs' := gs) (n := i) (fun j hj => if_neg (by omega))]
          simp only [if_true]
          exact hv5
        · exact hB'.trans (hF5.below (B := a) (by omega) (fun k q => q.elim (fun q => by omega) (fun q => (hv'.lt k q).1)))
        · simp only
          by_cases q1 : j = i
          · rw [if_pos q1]; exact hae
          · rw [if_neg q1]; exact hlo.out j (by omega)
      case measure => simp [intOf]; omega
    · have he : i = k := by omega
      subst he
      have hil : ¬ (i : Int) < (i : Int) := by omega
      have HA := Lib.hid hA
      have HV := Lib.hid hv
      have HC := Lib.hid hC
      have HBk := Lib.hid hb
      clear hA hv hC hb
      go_wp2
      go_ret2
      rw [Hk.out]
      refine ⟨a + 2, a, gs, v, rfl, ?_, by rw [Ha.out]; exact hB⟩
      rw [Ha.out]
      refine ⟨HBk.out, ?_, fun j b e => ?_, fun j l hj hl => hinj.out j l (by simpa [wd0] using hj) (by simpa [wd0] using hl), by simpa [wd0] using HV.out, own_nil _ _ _ _, own_nil _ _ _ _, own_nil _ _ _ _, ⟨by omega, Nat.le_refl _, fun j hj => hlo.out j (by simpa [wd0] using hj)⟩, fun k hk => hk.elim⟩
      · exact HC.out.sub (fun _ q => q.elim) ⟨fun q => q.1 (.inr (.inl rfl)), fun q => q.1 (.inr (.inr (.inl rfl)))⟩
      · have e : (List.replicate i ag0)[j]? = some b := e
        rw [List.getElem?_replicate] at e
        split at e
        · injection e with e; subst e; exact HA.out j (by assumption)
        · cases e
end
end Bar
end Go.Proofs.Ytpjbeodnalgkfaa
