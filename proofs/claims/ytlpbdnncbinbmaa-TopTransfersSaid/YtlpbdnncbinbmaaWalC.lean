/- Package wal: slices of updates; clean, noted, redo. -/
import Derived.Test.YtlpbdnncbinbmaaWalB
namespace Go.Proofs.Ytlpbdnncbinbmaa
open Go.RowKit Go.Maps

theorem write_n (s : DS) (i : Int) (x : List UInt8) : (s.write i x).2.n = s.n := by
  unfold DS.write
  split
  · rfl
  · split
    · exact step_n s
    · exact step_n s
theorem wrs_n (l : List (Nat × List UInt8)) : ∀ s, (wrs l s).2.n = s.n := by
  induction l with
  | nil => intro s; rfl
  | cons p l ih =>
    intro s
    simp only [wrs]
    split
    · rw [ih]; exact write_n _ _ _
    · exact write_n _ _ _
/-- A write more. -/
theorem wrs_more {l : List (Nat × List UInt8)} {s : DS} (h : (wrs l s).1 = 0) (i : Nat) (x : List UInt8) : wrs (l ++ [(i, x)]) s = (wrs l s).2.write i x := by rw [wrs_snoc, if_pos h]
/-- What fails ends it. -/
theorem wrsF_stop {l l' : List (Nat × List UInt8)} {s : DS} (h : (wrs l s).1 ≠ 0) : wrsF (l ++ l') s = wrs l s := by
  unfold wrsF
  rw [wrs_stop l l' s h, if_neg h]
theorem wrsF_all {l : List (Nat × List UInt8)} {s : DS} (h : (wrs l s).1 = 0) : wrsF l s = (wrs l s).2.flush := by unfold wrsF; rw [if_pos h]

/-! ### slices of updates -/
/-- The cells cs are the updates l; their bytes lie in blocks of F. -/
def UC (w : World) (F : Nat → Prop) (cs : List Value) (l : List Upd) : Prop :=
  cs.length = 2 * l.length ∧ ∀ j (hj : j < l.length), cs[2 * j]? = some (.int .i64 l[j].1) ∧ ∃ X m c, cs[2 * j + 1]? = some (.slice X m c) ∧ Bs w X m l[j].2 ∧ (X = none → m = 0 ∧ c = 0) ∧ m ≤ c ∧ c ≤ maxLen ∧ ∀ a, X = some a → 0 < m → F a.block
theorem UC.nil {w : World} {F : Nat → Prop} : UC w F [] [] := ⟨rfl, fun j hj => by simp at hj⟩
theorem UC.mono {w : World} {F F' : Nat → Prop} {cs : List Value} {l : List Upd} (h : UC w F cs l) (hF : ∀ b, b < w.heap.size → F b → F' b) : UC w F' cs l :=
  ⟨h.1, fun j hj => by
    obtain ⟨e1, X, m, c, e2, hb, hX, hc, hm, ho⟩ := h.2 j hj
    exact ⟨e1, X, m, c, e2, hb, hX, hc, hm, fun a ha h0 => hF _ (rd_block hb a ha h0) (ho a ha h0)⟩⟩
theorem UC.tn {w w' : World} {F : Nat → Prop} {lo hi : Nat} {cs : List Value} {l : List Upd} (h : UC w F cs l) (ht : Tn lo hi w w') (hF : ∀ b, F b → b < lo ∨ hi ≤ b) : UC w' F cs l :=
  ⟨h.1, fun j hj => by
    obtain ⟨e1, X, m, c, e2, hb, hX, hc, hm, ho⟩ := h.2 j hj
    exact ⟨e1, X, m, c, e2, ht.bs hb (fun a ha h0 => hF _ (ho a ha h0)), hX, hc, hm, ho⟩⟩
theorem UC.below {w w' : World} {F : Nat → Prop} {cs : List Value} {l : List Upd} (h : UC w F cs l) (hb : Below w.heap.size w w') : UC w' F cs l :=
  ⟨h.1, fun j hj => by
    obtain ⟨e1, X, m, c, e2, hbs, r⟩ := h.2 j hj
    exact ⟨e1, X, m, c, e2, hbs.below hb, r⟩⟩
theorem bs_grown {w w' : World} {row : Option Nat} {A : Option Addr} {n : Nat} {xs : List UInt8} (h : Bs w A n xs) (hg : w.grownBy w' row) (hne : ∀ a, A = some a → 0 < n → some a.block ≠ row) : Bs w' A n xs := by
  by_cases h0 : n = 0
  · subst h0
    have : xs = [] := List.eq_nil_of_length_eq_zero h.len.symm
    subst this
    exact Bs.nil
  · exact h.grown hg fun a ha => hne a ha (by omega)
theorem UC.grown {w w' : World} {F : Nat → Prop} {row : Option Nat} {cs : List Value} {l : List Upd} (h : UC w F cs l) (hg : w.grownBy w' row) (hF : ∀ b, F b → some b ≠ row) : UC w' F cs l :=
  ⟨h.1, fun j hj => by
    obtain ⟨e1, X, m, c, e2, hb, hX, hc, hm, ho⟩ := h.2 j hj
    exact ⟨e1, X, m, c, e2, bs_grown hb hg (fun a ha h0 => hF _ (ho a ha h0)), hX, hc, hm, ho⟩⟩
theorem UC.snoc {w : World} {F : Nat → Prop} {cs : List Value} {l : List Upd} (h : UC w F cs l) (u : Upd) {X : Option Addr} {m c : Nat} (hb : Bs w X m u.2) (hX : X = none → m = 0 ∧ c = 0) (hc : m ≤ c) (hm : c ≤ maxLen) (ho : ∀ a, X = some a → 0 < m → F a.block) :
    UC w F (cs ++ [.int .i64 u.1, .slice X m c]) (l ++ [u]) := by
  refine ⟨by simp [h.1]; omega, fun j hj => ?_⟩
  by_cases e : j < l.length
  · obtain ⟨e1, X, m, c, e2, r⟩ := h.2 j e
    have hl := h.1
    simp only [List.getElem_append_left e]
    exact ⟨by rw [List.getElem?_append_left (by omega)]; exact e1, X, m, c, by rw [List.getElem?_append_left (by omega)]; exact e2, r⟩
  · have hj' : j = l.length := by simp at hj; omega
    subst hj'
    have hl := h.1
    refine ⟨by rw [List.getElem?_append_right (by omega), show 2 * l.length - cs.length = 0 by omega]; simp, X, m, c, by rw [List.getElem?_append_right (by omega), show 2 * l.length + 1 - cs.length = 1 by omega]; rfl, by simpa using hb, hX, hc, hm, ho⟩
/-- A slice of updates, outside the blocks lo .. hi - 1. -/
def Uss (w : World) (lo hi : Nat) (A : Option Addr) (n : Nat) (l : List Upd) : Prop :=
  n = l.length ∧ ∃ cs, Rd w A 2 n cs ∧ UC w (fun b => b < lo ∨ hi ≤ b) cs l ∧ ∀ a, A = some a → 0 < n → a.block < lo ∨ hi ≤ a.block
theorem Uss.tn {w w' : World} {lo hi lo' hi' : Nat} {A : Option Addr} {n : Nat} {l : List Upd} (h : Uss w lo hi A n l) (ht : Tn lo' hi' w w') (h1 : lo ≤ lo') (h2 : hi' ≤ hi) : Uss w' lo hi A n l := by
  obtain ⟨e, cs, hr, hc, ho⟩ := h
  exact ⟨e, cs, ht.rd hr (fun a ha h0 => by have := ho a ha h0; omega), hc.tn ht (fun b hb => by omega), ho⟩
theorem Uss.below {w w' : World} {lo hi : Nat} {A : Option Addr} {n : Nat} {l : List Upd} (h : Uss w lo hi A n l) (hb : Below w.heap.size w w') : Uss w' lo hi A n l := by
  obtain ⟨e, cs, hr, hc, ho⟩ := h
  exact ⟨e, cs, hr.below hb, hc.below hb, ho⟩
theorem Uss.wide {w : World} {lo hi lo' hi' : Nat} {A : Option Addr} {n : Nat} {l : List Upd} (h : Uss w lo hi A n l) (h1 : lo ≤ lo') (h2 : hi' ≤ hi) : Uss w lo' hi' A n l := by
  obtain ⟨e, cs, hr, hc, ho⟩ := h
  exact ⟨e, cs, hr, hc.mono fun b _ hb => by omega, fun a ha h0 => by have := ho a ha h0; omega⟩
theorem Uss.at_ {w : World} {lo hi : Nat} {A : Option Addr} {n : Nat} {l : List Upd} (h : Uss w lo hi A n l) {k : Nat} (hk : k < n) :
    ∃ b o X m c, A = some ⟨b, o, none⟩ ∧ ∃ hx : k < l.length, w.cell? ⟨b, o + k * 2, none⟩ = some (.int .i64 l[k].1) ∧ w.cell? ⟨b, o + k * 2 + 1, none⟩ = some (.slice X m c) ∧ Bs w X m l[k].2 ∧ (X = none → m = 0 ∧ c = 0) ∧ m ≤ c ∧ c ≤ maxLen ∧ (∀ a, X = some a → 0 < m → a.block < lo ∨ hi ≤ a.block) ∧ (b < lo ∨ hi ≤ b) := by
  obtain ⟨e, cs, hr, hc, ho⟩ := h
  have hx : k < l.length := by omega
  obtain ⟨e1, X, m, c, e2, r⟩ := hc.2 k hx
  obtain ⟨b, o, rfl, hc1⟩ := hr.2 _ _ e1
  obtain ⟨b', o', e', hc2⟩ := hr.2 _ _ e2
  injection e' with e'
  injection e' with e3 e4
  subst e3 e4
  refine ⟨b, o, X, m, c, rfl, hx, by rw [Nat.mul_comm k 2]; exact hc1, by rw [Nat.mul_comm k 2, Nat.add_assoc]; exact hc2, r.1, r.2.1, r.2.2.1, r.2.2.2.1, r.2.2.2.2, ho _ rfl (by omega)⟩

/-! ### clean -/
set_option maxRecDepth 100000 in
set_option maxHeartbeats 2000000 in
theorem clean_ (g : Nat) (s : DS) (w : World) (h : Dk w g s) (hN : 10 ≤ s.n) :
    Calls Try.prog 50 #[.pointer (some ⟨g + 2, 0, none⟩)] w fun e w' => e = .returned (.int .i64 ((wrsF (cleanL s.n) s).1 : Int)) ∧ Dk w' g (wrsF (cleanL s.n) s).2 ∧ Tn g (g + 3) w w' := by
  have hmost := h.most
  have hC : ∀ m, cleanL (9 + (m + 1)) = cleanL (9 + m) ++ [(9 + m, [])] := fun m => by
    unfold cleanL
    rw [show 9 + (m + 1) - 9 = m + 1 by omega, show 9 + m - 9 = m by omega, List.range_succ, List.map_append]
    rfl
  have hS : ∀ m, m ≤ s.n - 9 → ∃ l', cleanL s.n = cleanL (9 + m) ++ l' := fun m hm => by
    refine ⟨(cleanL s.n).drop m, ?_⟩
    have : cleanL (9 + m) = (cleanL s.n).take m := by
      unfold cleanL
      rw [← List.map_take, List.take_range, show 9 + m - 9 = m by omega, Nat.min_eq_left hm]
    rw [this, List.take_append_drop]
  go_enter Try.func50, Try.ntmps50
  go_wp2_with fail
  go_loopw [3] (fun i wr => ∃ m : Nat, m ≤ s.n - 9 ∧ i = .int .i64 ((9 + m : Nat) : Int) ∧ (wrs (cleanL (9 + m)) s).1 = 0 ∧ Dk wr g (wrs (cleanL (9 + m)) s).2 ∧ Tn g (g + 3) w wr) (fun i _ => 300 - (intOf i).toNat)
  case atStart => exact ⟨0, by omega, rfl, rfl, h, Tn.refl _ _ _⟩
  case round =>
    obtain ⟨m, hm, rfl, h0, hd, ht⟩ := hrel
    have hn := wrs_n (cleanL (9 + m)) s
    have hm1 := hC m
    have hw := wrs_more h0 (9 + m) []
    rw [← hm1] at hw
    clear h hm1 hC
    obtain ⟨r0, s1, hr0⟩ : ∃ r0 s1, wrs (cleanL (9 + m)) s = (r0, s1) := ⟨_, _, rfl⟩
    rw [hr0] at h0 hd hn hw
    have HR0 := Lib.hid hr0
    clear hr0
    simp only at h0 hd hn hw
    subst h0
    go_wp2_with fail
    refine (sectors_ g s1 _ hd).mono ?_
    rw [hn]
    rintro e w' ⟨rfl, rfl⟩
    by_cases hlt : 9 + m < s.n
    · have hlt' : ((9 + m : Nat) : Int) < (s.n : Int) := by omega
      go_wp2_with fail
      refine (write_ g s1 ((9 + m : Nat) : Int) none 0 0 [] _ hd Bs.nil (fun _ => ⟨rfl, rfl⟩) (Nat.le_refl _) (fun a ha => by cases ha)).mono ?_
      rw [← hw]
      rintro e w2 ⟨rfl, h2, ht2⟩
      have HS := Lib.hid (hS (m + 1) (by omega))
      obtain ⟨e2, s2, hr2⟩ : ∃ e2 s2, wrs (cleanL (9 + (m + 1))) s = (e2, s2) := ⟨_, _, rfl⟩
      rw [hr2] at h2 ⊢
      have HR := Lib.hid hr2
      clear hr2 hw
      by_cases he : e2 = 0
      · subst he
        go_wp2
        go_roundw
        case rel => exact ⟨m + 1, by omega, by go_num, by rw [HR.out], by rw [HR.out]; exact h2, ht.trans ht2⟩
        case measure => simp [intOf]; omega
      · have he' : ¬ (e2 : Int) = 0 := by omega
        have hF : wrsF (cleanL s.n) s = (e2, s2) := by
          obtain ⟨l', e⟩ := HS.out
          rw [e, wrsF_stop (by rw [HR.out]; exact he), HR.out]
        have HF := Lib.hid hF
        clear hF he
        go_wp2
        go_ret
        rw [HF.out]
        exact ⟨rfl, h2, ht.trans ht2⟩
    · have hlt' : ¬ ((9 + m : Nat) : Int) < (s.n : Int) := by omega
      have hm' : 9 + m = s.n := by omega
      have HF := Lib.hid (show wrsF (cleanL s.n) s = s1.flush by rw [← hm', wrsF_all (by rw [HR0.out]), HR0.out])
      go_wp2_with fail
      refine (flush_ g s1 _ hd).mono ?_
      rintro e w2 ⟨rfl, h2, ht2⟩
      go_wp2
      go_ret
      rw [HF.out]
      exact ⟨rfl, h2, ht.trans ht2⟩

/-! ### noted -/
theorem info_upd : (Try.prog.info? 67).map (fun i => (i.zero, i.size, i.bytes)) = some (some (.agg #[.int .i64 0, .slice none 0 0]), 2, 32) := by kernel_rfl
def notes (ats : Nat → Nat) (P : Nat → List UInt8) (k : Nat) : List Upd := (List.range k).map fun j => ((ats j : Int), P (ats j))
theorem notes_succ (ats : Nat → Nat) (P : Nat → List UInt8) (k : Nat) : notes ats P (k + 1) = notes ats P k ++ [((ats k : Int), P (ats k))] := by unfold notes; rw [List.range_succ, List.map_append]; rfl
theorem openL_note {a : Nat} {x : List UInt8} (hx : x.length = 48) : openL (secOf (noteB a x)) = numsBytes [a] ++ (x ++ List.replicate 4 0) := by
  rw [openL_sec]
  unfold fill60
  rw [noteB_length hx]
  simp [noteB, numsBytes]
theorem okSum_sec (b : List UInt8) : okSum (secOf b) = true := okSum_sealL _
set_option maxRecDepth 100000 in
set_option maxHeartbeats 2000000 in
theorem noted_ (g : Nat) (s : DS) (k : Nat) (ats : Nat → Nat) (P : Nat → List UInt8) (w : World) (h : Dk w g s) (hN : 10 ≤ s.n) (ho : s.on = true) (hk : k ≤ 6)
    (ha : ∀ j, j < k → ats j < s.n - 9 ∧ s.look (2 + j) = secOf (noteB (ats j) (P (ats j))) ∧ (P (ats j)).length = 48) :
    Calls Try.prog 63 #[.pointer (some ⟨g + 2, 0, none⟩), .int .i64 (k : Int)] w fun e w' => ∃ A c, e = .returned (.tuple #[.slice A k c, .int .i64 0]) ∧ Uss w' g (g + 3) A k (notes ats P k) ∧ k ≤ c ∧ c ≤ maxLen ∧ Below w.heap.size w w' := by
  obtain ⟨i0, hi0, hz0, hz1, hz2⟩ := info_parts info_upd
  have Hz := Lib.hid hz2
  clear hz2
  have hgl := h.lt
  have hmost := h.most
  go_enter Try.func63, Try.ntmps63
  go_wp2_with fail
  go_loopw [13, 6] (fun i v wr => ∃ j : Nat, j ≤ k ∧ i = .int .i64 (j : Int) ∧ ∃ cs, wr.ownsRow w.heap.size 67 2 v j cs ∧ UC wr (fun b => w.heap.size ≤ b ∧ some b ≠ v.ownBlock) cs (notes ats P j) ∧ Below w.heap.size w wr) (fun i _ _ => k - (intOf i).toNat)
  case atStart => exact ⟨0, Nat.zero_le _, rfl, [], own_nil _ _ _ _, UC.nil, Below.refl _ _⟩
  case round =>
    obtain ⟨j, hj, rfl, cs, hown, hU, hB⟩ := hrel
    obtain ⟨A6, c6, rfl, hc6, hm6, ha6⟩ := own_form hown
    have hz := hB.size
    by_cases hlt : j < k
    · obtain ⟨ha1, ha2, ha3⟩ := ha j hlt
      have hE : rdE s (2 + j) = 0 := by simp [rdE, ho, ha2, okSum_sec]
      have hL : rdL s (2 + j) = numsBytes [ats j] ++ (P (ats j) ++ List.replicate 4 0) := by simp only [rdL, ho, if_true]; rw [ha2, openL_note ha3]
      have hNS := notes_succ ats P j
      have hI : rInt (numsBytes [ats j] ++ (P (ats j) ++ List.replicate 4 0)) (s.n - 10 : Int) ⟨0, 0, 0⟩ = (ats j, ⟨8, 0, 0⟩) := rInt_nums [ats j] _ 0 _ (by simp) (by simp; omega) (by simp; omega)
      have hcut : (((numsBytes [ats j] ++ (P (ats j) ++ List.replicate 4 0)).drop 8).take 48) = P (ats j) := by
        rw [show 8 = (numsBytes [ats j]).length by simp [numsBytes_length], List.drop_left, show 48 = (P (ats j)).length from ha3.symm, List.take_left]
      have hlen : (numsBytes [ats j] ++ (P (ats j) ++ List.replicate 4 0)).length = 60 := by simp [numsBytes_length, ha3]
      generalize numsBytes [ats j] ++ (P (ats j) ++ List.replicate 4 0) = xs at *
      generalize P (ats j) = x at *
      generalize ats j = a at *
      go_wp2_with fail
      refine (wread_ g s (2 + j) _ (h.below hB) (by omega)).mono ?_
      rw [hE, hL]
      rintro e w2 ⟨A, n, c, rfl, hbs, hA, hn, hc, hm, hAb, hb2⟩
      obtain rfl : n = 60 := by rw [hbs.len, hlen]
      obtain ⟨b, o, rfl, _⟩ := hbs.at_ (k := 0) (by omega)
      have hbw := hAb _ rfl
      simp only at hbw
      have hm' : c ≤ 9223372036854775807 := by unfold maxLen at hm; omega
      have hz2 := hb2.size
      go_wp2_with fail
      refine (pnew_ _ 60 c xs _ hbs (fun e => by cases e) hc hm' (by omega)).mono ?_
      rintro e w3 ⟨br, rfl, hbr, hR, hb3⟩
      have hz3 := hb3.size
      go_wp2_with fail
      refine (sectors_ g s _ (((h.below hB).below hb2).below hb3)).mono ?_
      rintro e w' ⟨rfl, rfl⟩
      have hn10 : wrap64 ((s.n : Int) - 10) = (s.n : Int) - 10 := by unfold wrap64; omega
      go_wp2_with fail
      refine (int_ br xs ⟨0, 0, 0⟩ ((s.n : Int) - 10) _ hR (by omega) (by omega)).mono ?_
      rw [hI]
      rintro e w4 ⟨rfl, hR4, hg4⟩
      go_wp2_with fail
      refine (fault_ br xs ⟨8, 0, 0⟩ _ hR4).mono ?_
      rintro e w5 ⟨rfl, hb5⟩
      have hR5 := hR4.below hb5
      have hB25 : Below w2.heap.size w2 w5 := (hb3.grown hg4 hz3 (fun k hk => by injection hk with hk; omega)).trans (hb5.mono (by have := hg4.size; omega))
      have hB5 : Below wr.heap.size wr w5 := hb2.trans (hB25.mono hz2)
      have hd := (hbs.below hB25).drop (k := 8) (cap := c) (by omega) hc
      rw [if_neg (by omega)] at hd
      simp only [Option.map_some, add_plain] at hd
      have ht := hd.take (k := 48) (by omega)
      rw [hcut] at ht
      have hown5 := own_keep hown hB5
      have hU5 := hU.below hB5
      have hownlt : ∀ q, (Value.slice A6 j c6).ownBlock = some q → w.heap.size ≤ q ∧ q < wr.heap.size := fun q hq => hown.lt q hq
      have hz5 := hB25.size
      clear hbs hR hb2 hb3 hg4 hb5 hR4 hown hU hd
      have t1 : (8 : Int) ≤ 60 := by omega
      have t2 : ¬ c = 8 := by omega
      have t3 : (48 : Int) ≤ ((60 - 8 : Nat) : Int) := by omega
      go_wp2_with fail
      refine (at_ br xs ⟨8, 0, 0⟩ _ hR5).mono ?_
      rintro e w' ⟨rfl, rfl⟩
      go_wp2_with (first
        | (at_builtin
           refine wpList_app _ rfl (.tmp 37) (.tmp 45) _ rfl w.heap.size 67 i0 (.agg #[.int .i64 0, .slice none 0 0]) 2 32 Try.underlying42 hi0 hz0 hz1 Hz.out rfl (by decide) (.slice A6 j c6) j cs rfl (hown5.alloc _) (some ⟨w5.heap.size, 0, none⟩) 1 1 [.int .i64 (a : Int), .slice (some ⟨b, o + 8, none⟩) 48 (c - 8)] rfl (by simp) (Rd.new w5 #[.int .i64 (a : Int), .slice (some ⟨b, o + 8, none⟩) 48 (c - 8)] 67 (0, 0) rfl) (by simp [Value.oneCell']) (by unfold maxLen; omega) (by omega) (by simp; omega) ?_
           intro v7 w7 hown7 hg7 hat7)
        | fail)
      have hrow := hownlt
      go_roundw
      case rel =>
        refine ⟨j + 1, by omega, by go_num, _, hown7, ?_, ?_⟩
        · rw [hNS]
          have h1 : UC (w5.alloc (.cells #[.int .i64 (a : Int), .slice (some ⟨b, o + 8, none⟩) 48 (c - 8)] 67)) (fun q => w.heap.size ≤ q ∧ some q ≠ (Value.slice A6 j c6).ownBlock ∧ some q ≠ v7.ownBlock) cs (notes ats P j) :=
            (hU5.below ((Below.refl _ _).alloc (Nat.le_refl _) _)).mono fun q hq hF => ⟨hF.1, hF.2, fun e => by
              rcases hat7 with h | h
              · exact hF.2 (e.trans h)
              · rw [h] at e; injection e with e; omega⟩
          have h2 := h1.grown hg7 fun q hF => hF.2.1
          have hb7 := bs_grown (ht.alloc (.cells #[.int .i64 (a : Int), .slice (some ⟨b, o + 8, none⟩) 48 (c - 8)] 67)) hg7 (fun q hq _ e => by injection hq with hq; subst hq; have := (hrow b e.symm).2; omega)
          refine (h2.snoc ((a : Int), x) hb7 (fun e => by cases e) (by omega) (by omega) (fun q hq _ => ?_)).mono fun q _ hF => ⟨hF.1, hF.2.2⟩
          injection hq with hq
          subst hq
          refine ⟨by simp only; omega, fun e => by have := (hrow b e.symm).2; omega, fun e => ?_⟩
          rcases hat7 with h | h
          · have := (hrow b (by rw [← h]; exact e.symm)).2; omega
          · rw [h] at e
            injection e with e
            have := (rd_block ht _ rfl (by omega))
            simp only [World.size_alloc] at *
            omega
        · exact ((hB.trans (hB5.mono hz)).alloc (by have := hB5.size; omega) _).grown hg7 (by simp only [World.size_alloc]; have := hB5.size; omega) (fun q hq => (hrow q hq).1)
      case measure => simp [intOf]; omega
    · obtain rfl : j = k := by omega
      go_wp2
      go_ret2
      refine ⟨A6, c6, rfl, ⟨by simp [notes], cs, rd_own hown, hU.mono fun q _ hF => by omega, fun a ha _ => ?_⟩, hc6, hm6, hB⟩
      have := (hown.lt a.block (by rw [ha]; rfl)).1
      omega
end Go.Proofs.Ytlpbdnncbinbmaa
