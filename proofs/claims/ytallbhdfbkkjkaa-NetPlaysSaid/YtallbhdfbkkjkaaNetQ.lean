/- Layer 15: a bag: Put, Take. -/
import Derived.Test.YtallbhdfbkkjkaaNetP
set_option linter.all false
namespace Go.Proofs.Ytallbhdfbkkjkaa
open Go.RowKit
namespace Net
/-- What a bag's call turns. -/
abbrev Sb (b : Nat) (U : Nat → Prop) : Nat → Prop := fun k => k = b ∨ U k
theorem BgX.elem {w : World} {B b : Nat} {U : Nat → Prop} {v : Value} {L : List (Value × Gr)} (h : BgX w B b U v L) {i : Nat} (hi : i < L.length) :
    ∃ g c, v = .slice (some ⟨g, 0, none⟩) L.length c ∧ L.length ≤ c ∧ c ≤ maxLen ∧ w.cell? ⟨g, i * 2, none⟩ = some L[i].1 ∧ w.cell? ⟨g, i * 2 + 1, none⟩ = some (.bool L[i].2.s) ∧ (∀ j, w.frozen? ⟨g, j, none⟩ = false) ∧ U g := by
  have hr := h.row
  obtain ⟨A, c, rfl, hc, hm, hA⟩ := own_form hr
  have h0 := gvs_at hi (j := 0) (by omega)
  have h1 := gvs_at hi (j := 1) (by omega)
  simp only [Nat.add_zero] at h0
  obtain ⟨g, o, e, c0⟩ := (rd_own hr).2 _ _ h0
  obtain ⟨g', o', e', c1⟩ := (rd_own hr).2 _ _ h1
  rw [e] at e'
  injection e' with e'
  injection e' with e1 e2
  subst e1 e2 e
  obtain rfl : o = 0 := by
    rcases hr.2 with ⟨e1, _⟩ | ⟨g', cap', cur, e1, _⟩
    · cases e1
    · injection e1 with e1 _ _
      injection e1 with e1
      injection e1
  simp only [Nat.zero_add] at c0 c1
  obtain ⟨cur, hb, _⟩ := flat_blk hr
  exact ⟨g, c, rfl, hc, hm, c0, c1, fun j => hb.free j, h.rowU g rfl⟩
theorem BgX.forms {w : World} {B b : Nat} {U : Nat → Prop} {v : Value} {L : List (Value × Gr)} (h : BgX w B b U v L) : ∀ p ∈ L, ∃ X m c, p.1 = .slice X m c := fun p hp => by
  obtain ⟨A, c, e, _⟩ := own_form (h.data p hp)
  exact ⟨_, _, _, e⟩
/-- One is taken out. -/
theorem BgX.erase {w w2 : World} {B b : Nat} {U : Nat → Prop} {v v' : Value} {L : List (Value × Gr)} {i : Nat} (h : BgX w B b U v L) (hi : i < L.length) {g : Nat} (hv : v.ownBlock = some g) (hv' : v'.ownBlock = some g)
    (hrow : w2.ownsRow B 93 2 v' (L.length - 1) (gvs (L.eraseIdx i))) (hg : w.grownBy w2 (some g)) :
    BgX (w2.setCell ⟨b, 1, none⟩ v') B b (fun k => U k ∧ L[i].1.ownBlock ≠ some k) v' (L.eraseIdx i) ∧ (w2.setCell ⟨b, 1, none⟩ v').ownsRow B 5 1 L[i].1 L[i].2.b.length (bvs L[i].2.b) := by
  have hgb : g ≠ b := fun e => h.out (e ▸ h.rowU g hv)
  have hset := grown_setCell w2 ⟨b, 1, none⟩ v'
  have hsub : ∀ p ∈ L.eraseIdx i, p ∈ L := fun p hp => List.mem_of_mem_eraseIdx hp
  have hd : ∀ p ∈ L, (w2.setCell ⟨b, 1, none⟩ v').ownsRow B 5 1 p.1 p.2.b.length (bvs p.2.b) := fun p hp =>
    own_grown (own_grown (h.data p hp) hg (fun k hk e => own_ne h.row (h.data p hp) (by decide) hv (by rw [hk, e]))) hset (fun k hk e => h.out (by injection e with e; exact (show k = b from e) ▸ h.dataU p hp k hk))
  have hL : L = L.take i ++ L[i] :: L.drop (i + 1) := by rw [← List.drop_eq_getElem_cons hi, List.take_append_drop]
  have hap := h.apart
  have hne : ∀ p ∈ L.eraseIdx i, ∀ k, p.1.ownBlock = some k → L[i].1.ownBlock ≠ some k := by
    intro p hp k hk e
    rw [List.eraseIdx_eq_take_drop_succ] at hp
    rw [hL, List.pairwise_append, List.pairwise_cons] at hap
    rcases List.mem_append.1 hp with hp | hp
    · exact hap.2.2 p hp L[i] List.mem_cons_self k hk e
    · exact hap.2.1.1 p hp k e hk
  have hb3 : Blk w2 b 65 #[.pointer (some ⟨b, 0, none⟩), v] := h.blk.grown hg (fun e => by injection e with e; exact hgb e.symm)
  have hlen : (L.eraseIdx i).length = L.length - 1 := List.length_eraseIdx_of_lt hi
  refine ⟨⟨by simpa using hb3.setCell 1 v', ?_, fun p hp => hd p (hsub p hp), h.apart.sublist (List.eraseIdx_sublist L i), ?_, ?_, fun e => h.out e.1, h.low, by rw [hlen]; have := h.few; omega, fun p hp => h.far p (hsub p hp)⟩, hd _ (List.getElem_mem hi)⟩
  · rw [hlen]
    exact own_grown hrow hset (fun k hk e => by rw [hv'] at hk; injection hk with hk; injection e with e; simp only at e; omega)
  · intro k hk
    have hk2 : v.ownBlock = some k := by rw [hv]; rw [hv'] at hk; exact hk
    exact ⟨h.rowU k hk2, fun e => own_ne h.row (h.data _ (List.getElem_mem hi)) (by decide) hk2 e⟩
  · exact fun p hp k hk => ⟨h.dataU p (hsub p hp) k hk, hne p hp k hk⟩
def TakA (B b : Nat) (U : Nat → Prop) (l : List Gr) (i : Int) (w w' : World) (e : Ending) : Prop :=
  ∃ v, e = .returned (.tuple #[v, .bool (takG l i).s, .int .i64 (takE l i)]) ∧ w'.ownsRow B 5 1 v (takG l i).b.length (bvs (takG l i).b) ∧ Bg w' B b (fun k => U k ∧ v.ownBlock ≠ some k) (takS l i) ∧ (∀ k, v.ownBlock = some k → U k) ∧ Fu (Sb b U) w w'
theorem erase_map (L : List (Value × Gr)) (k : Nat) : (L.map (·.2)).eraseIdx k = (L.eraseIdx k).map (·.2) := by
  rw [List.eraseIdx_eq_take_drop_succ, List.eraseIdx_eq_take_drop_succ, List.map_append, List.map_take, List.map_drop]
theorem getG_map {L : List (Value × Gr)} {k : Nat} (hk : k < L.length) : getG (L.map (·.2)) (k : Int) = L[k].2 := by
  unfold getG
  rw [Int.toNat_natCast, List.getD, List.getElem?_map, List.getElem?_eq_getElem hk]
  rfl
section
variable (w : World)
set_option maxRecDepth 100000 in
set_option maxHeartbeats 1000000 in
theorem bput_ (B b : Nat) (U : Nat → Prop) (l : List Gr) (h : Bg w B b U l) (A : Option Addr) (n c : Nat) (gs : List (List UInt8))
    (hgs : ∀ w1, Fu (Sb b U) w w1 → Bss w1 A n gs) (hnc : n ≤ c) (hc : c ≤ 9223372036854775807) (hlen : ∀ d ∈ gs, d.length ≤ 140737488351300) :
    Calls Try.prog 18 #[.pointer (some ⟨b, 0, none⟩), .slice A n c] w fun e w' => e = .returned (.int .i64 (putN l gs : Nat)) ∧ Bg w' B b (fun k => U k ∨ w.heap.size ≤ k) (putS l gs) ∧ Fu (Sb b U) w w' := by
  obtain ⟨v, L, rfl, hX⟩ := h
  have hM := made_ w b _ hX.blk
  have hX2 : BgX w B b (fun k => U k ∧ k < w.heap.size) v L := hX.sub (fun k hk hlt => ⟨hk, hlt⟩) (fun e => hX.out e.1)
  have hS : ∀ w1, Fu (Sv b v) w w1 → Fu (Sb b U) w w1 := fun w1 hf => hf.mono (fun j hj => hj.imp id (fun e => hX.rowU j e))
  have hA := add_ w B b _ v L hX2 false A n c gs (fun w1 hf => hgs w1 (hS w1 hf)) hnc hc hlen (fun k hk => hk.2)
  have hlt := hX.blk.lt
  have hout := hX.out
  clear hX hX2 hgs
  go_enter Try.func18, Try.ntmps18
  go_wp2_with fail
  refine hM.mono ?_
  rintro e w' ⟨rfl, rfl⟩
  go_wp2_with fail
  refine hA.mono ?_
  rintro e w2 ⟨rfl, hB, hF⟩
  go_wp2
  go_ret
  exact ⟨rfl, hB.sub (fun k hk _ => hk.imp (fun q => q.1) id) (fun e => e.elim hout (by omega)), hS _ hF⟩
set_option maxRecDepth 100000 in
set_option maxHeartbeats 1000000 in
theorem bput_nil (A : Option Addr) (n c : Nat) : Calls Try.prog 18 #[.pointer none, .slice A n c] w fun e w' => e = .returned (.int .i64 0) ∧ w = w' := by
  go_enter Try.func18, Try.ntmps18
  go_wp2_with fail
  refine (made_nil _).mono ?_
  rintro e w' ⟨rfl, rfl⟩
  go_wp2
  go_ret
  exact ⟨rfl, rfl⟩
set_option maxRecDepth 100000 in
set_option maxHeartbeats 1000000 in
theorem bput_no (b : Nat) (v : Value) (h : Blk w b 65 #[.pointer none, v]) (A : Option Addr) (n c : Nat) : Calls Try.prog 18 #[.pointer (some ⟨b, 0, none⟩), .slice A n c] w fun e w' => e = .returned (.int .i64 0) ∧ w = w' := by
  go_enter Try.func18, Try.ntmps18
  go_wp2_with fail
  refine (made_no _ b v h).mono ?_
  rintro e w' ⟨rfl, rfl⟩
  go_wp2
  go_ret
  exact ⟨rfl, rfl⟩
set_option maxRecDepth 100000 in
set_option maxHeartbeats 2000000 in
theorem take_ (B b : Nat) (U : Nat → Prop) (l : List Gr) (h : Bg w B b U l) (i : Int) :
    Calls Try.prog 20 #[.pointer (some ⟨b, 0, none⟩), .int .i64 i] w fun e w' => TakA B b U l i w w' e := by
  obtain ⟨v, L, rfl, hX⟩ := h
  have hRf := refuse_ w B b U v L hX i
  by_cases hi : hasB (L.map (·.2)) i = true
  · obtain ⟨t1, t2, t3⟩ := take_of hi
    have hi2 := has_iff.1 hi
    rw [List.length_map] at hi2
    obtain ⟨k, rfl⟩ := Int.eq_ofNat_of_zero_le hi2.1
    have hk : k < L.length := by omega
    obtain ⟨g, c, rfl, hLc, hcm, c0, c1, hfz, hUg⟩ := hX.elem hk
    have hx := hX.data _ (List.getElem_mem hk)
    have hdU := hX.dataU _ (List.getElem_mem hk)
    obtain ⟨X, cx, ex, hcx, hmx, hAx⟩ := own_form hx
    rw [t1] at hRf
    have hGk := getG_map hk
    rw [Int.toNat_natCast, ← List.eraseIdx_eq_take_drop_succ] at t3
    have HT := Lib.hid (show takE (L.map (·.2)) (k : Int) = 0 ∧ takG (L.map (·.2)) (k : Int) = L[k].2 ∧ takS (L.map (·.2)) (k : Int) = (L.eraseIdx k).map (·.2) from ⟨t1, by rw [t2, hGk], by rw [t3, erase_map]⟩)
    have hone := hX.forms
    have hrow := hX.row
    have b1 := hX.blk.cell (j := 1) (u := .slice (some ⟨g, 0, none⟩) L.length c) rfl
    have bf := hX.blk.free 1
    have hblt := hX.blk.lt
    have hnb : g ≠ b := fun e => hX.out (e ▸ hUg)
    have hgl : g < w.heap.size := cell_lt c0
    have HX := Lib.hid hX
    have HB := Lib.hid hX.low
    obtain ⟨p, hp⟩ : ∃ p, L[k] = p := ⟨_, rfl⟩
    rw [hp] at c0 c1 ex HT hdU hcx hAx
    obtain ⟨xv, d, xs⟩ := p
    simp only at c0 c1 ex HT hdU hcx hAx
    obtain ⟨nx, hnx⟩ : ∃ nx, d.length = nx := ⟨_, rfl⟩
    have Hnx := Lib.hid hnx
    rw [hnx] at ex hcx hAx
    subst ex
    obtain ⟨n, hn⟩ : ∃ n, L.length = n := ⟨_, rfl⟩
    have Hn := Lib.hid hn
    have Hp := Lib.hid (show L[k]? = some (.slice X nx cx, (⟨d, xs⟩ : Gr)) by rw [List.getElem?_eq_getElem hk, hp])
    have HK := Lib.hid hk
    rw [hn] at hLc hrow b1
    have k1 : (k : Int) < (n : Int) := by omega
    have k2 : (0 : Int) ≤ (k : Int) := by omega
    have k3 : k < n := by omega
    have hcm' := hcm
    unfold maxLen at hcm'
    have e8 : IntKind.i64.wrap ((k : Int) + 1) = (k : Int) + 1 := IntWalk.i64_in _ (by omega)
    clear hX hx hi t1 t2 t3 hi2 hGk hp hnx hn hk
    go_enter Try.func20, Try.ntmps20
    go_wp2_with fail
    refine hRf.mono ?_
    rintro e w' ⟨rfl, rfl⟩
    go_wp2_with fail
    have hba : Below w.heap.size w (w.alloc (.cells #[.slice X nx cx, .bool xs] 93)) := (Below.refl _ _).alloc (Nat.le_refl _) _
    have hX1 := HX.out.keep hba
    have hm1 : Blk (w.alloc (.cells #[.slice X nx cx, .bool xs] 93)) w.heap.size 93 #[.slice X nx cx, .bool xs] := Blk.new w _ _ rfl
    have hrow1 : (w.alloc (.cells #[.slice X nx cx, .bool xs] 93)).ownsRow B 93 2 (.slice (some ⟨g, 0, none⟩) n c) n (gvs L) := own_keep hrow hba
    refine (del_ _ B g n c k L hrow1 k3 hone).mono ?_
    obtain ⟨w1, hw1⟩ : ∃ w1, w.alloc (.cells #[.slice X nx cx, .bool xs] 93) = w1 := ⟨_, rfl⟩
    have hs1 : w1.heap.size = w.heap.size + 1 := by rw [← hw1]; simp
    rw [hw1] at hba hX1 hm1 hrow1 ⊢
    rintro e w2 ⟨rfl, hrow2, hg2⟩
    have hs2 := hg2.size
    have b2 : w2.cell? ⟨b, 1, none⟩ = some (.slice (some ⟨g, 0, none⟩) n c) := hg2.cell (hba.cell hblt |>.trans b1) (fun e => hnb (by injection e with e; exact e.symm))
    have f2 : w2.frozen? ⟨b, 1, none⟩ = false := (hX1.blk.grown hg2 (fun e => hnb (by injection e with e; exact e.symm))).free 1
    have hm2 := hm1.grown hg2 (fun e => by injection e with e; omega)
    have hset := grown_setCell w2 ⟨b, 1, none⟩ (.slice (some ⟨g, 0, none⟩) (n - 1 : Nat) c)
    have hm3 := hm2.grown hset (fun e => by injection e with e; simp only at e; omega)
    have m0 := hm3.cell (j := 0) (u := .slice X nx cx) rfl
    have m1 := hm3.cell (j := 1) (u := .bool xs) rfl
    have HXE := Lib.hid hX1
    have hF : Fu (Sb b U) w (w2.setCell ⟨b, 1, none⟩ (.slice (some ⟨g, 0, none⟩) (n - 1 : Nat) c)) :=
      ((Fu.ofBelow hba).step hg2 (fun j e => by injection e with e; exact .inl (.inr (e ▸ hUg)))).step hset (fun j e => by injection e with e; exact .inl (.inl e.symm))
    clear hX1 hm1 hrow1 hba hm2 hm3 hset b1 bf c0 c1 hfz hrow hw1
    go_wp2_with fail
    go_quiet (fail)
    go_wp2
    go_ret3
    have hk := HK.out
    have hp : L[k] = (.slice X nx cx, (⟨d, xs⟩ : Gr)) := by
      have := Hp.out
      rw [List.getElem?_eq_getElem hk] at this
      injection this
    rw [← Hn.out] at hrow2
    have hE := HXE.out.erase hk (g := g) rfl (v' := .slice (some ⟨g, 0, none⟩) (L.length - 1 : Nat) c) rfl hrow2 hg2
    rw [hp] at hE
    simp only at hE
    unfold TakA
    rw [HT.out.1, HT.out.2.1, HT.out.2.2]
    rw [Hn.out] at hE
    have hq := Hnx.out
    subst hq
    exact ⟨_, rfl, hE.2, ⟨_, _, rfl, hE.1.drewN _⟩, hdU, hF.drewN _⟩
  · have hi : hasB (L.map (·.2)) i = false := by simpa using hi
    obtain ⟨t1, t2, t3⟩ := take_no hi
    rw [t1] at hRf
    have HT := Lib.hid (show takE (L.map (·.2)) i = 9 ∧ takG (L.map (·.2)) i = zG ∧ takS (L.map (·.2)) i = L.map (·.2) from ⟨t1, t2, t3⟩)
    clear t1 t2 t3 hi
    go_enter Try.func20, Try.ntmps20
    go_wp2_with fail
    refine hRf.mono ?_
    rintro e w' ⟨rfl, rfl⟩
    go_wp2
    go_ret3
    unfold TakA
    rw [HT.out.1, HT.out.2.1, HT.out.2.2]
    exact ⟨.slice none 0 0, rfl, own_nil _ _ _ _, ⟨v, L, rfl, hX.sub (fun k hk _ => ⟨hk, fun e => by cases e⟩) (fun e => hX.out e.1)⟩, (fun k e => by cases e), Fu.refl _ _⟩
end
end Net
end Go.Proofs.Ytallbhdfbkkjkaa
