/- The statements' own function does, of layer 3. -/
import Derived.Test.YtbppkdfmiegipaaDiskL
namespace Go.Proofs.Ytbppkdfmiegipaa
open Go.ChangeShapes Go.WideShapes Go.ChangeAt Go.RowKit Go.Maps

/-- What a call, by its kind, comes to. -/
def DS.does (s : DS) (kd : Nat) (i : Int) (xs : List UInt8) (ks : List Bool) : Bool × DS :=
  if kd % 7 = 0 then (decide ((s.write i xs).1 = 0), (s.write i xs).2)
  else if kd % 7 = 1 then (decide ((s.read i).2 = 0), s)
  else if kd % 7 = 2 then (decide (s.flush.1 = 0), s.flush.2)
  else if kd % 7 = 3 then (true, s.arm i)
  else if kd % 7 = 4 then (true, s.cut)
  else if kd % 7 = 5 then (decide ((s.start ks).1 = 0), (s.start ks).2)
  else (true, s)

theorem write_n (s : DS) (i : Int) (xs : List UInt8) : (s.write i xs).2.n = s.n := by
  unfold DS.write
  split
  · rfl
  · split
    · exact step_n s
    · exact step_n s
theorem flush_n (s : DS) : s.flush.2.n = s.n := by
  unfold DS.flush
  split
  · exact step_n s
  · exact step_n s
theorem start_n (s : DS) (ks : List Bool) : (s.start ks).2.n = s.n := by
  unfold DS.start
  split <;> rfl
theorem does_n (s : DS) (kd : Nat) (i : Int) (xs : List UInt8) (ks : List Bool) : (s.does kd i xs ks).2.n = s.n := by
  unfold DS.does
  repeat' split
  · exact write_n s i xs
  · rfl
  · exact flush_n s
  · rfl
  · rfl
  · exact start_n s ks
  · rfl
theorem mod7 {kd r : Nat} (h : kd % 7 = r) (j : Int) : ((kd : Int) % 7 == j) = decide (j = (r : Int)) := by
  by_cases e : j = (r : Int)
  · subst e; simp; omega
  · rw [decide_eq_false e, beq_eq_false_iff_ne]; omega
theorem eq0 (k : Nat) : ((k : Int) == 0) = decide (k = 0) := by
  by_cases h : k = 0
  · subst h; rfl
  · simp [h]

set_option maxRecDepth 100000 in
set_option maxHeartbeats 1000000 in
theorem does_ (g : Nat) (s : DS) (kd : Nat) (i : Int) (A B : Option Addr) (n c m d : Nat) (xs : List UInt8) (ks : List Bool) (w : World) (h : Dk w g s) (hkd : kd < 256) (hi : -9223372036854775808 ≤ i ∧ i ≤ 9223372036854775807) (hx : Bs w A n xs) (hA : A = none → n = 0 ∧ c = 0) (hnc : n ≤ c)
    (hk : Bls w B m ks) (hm : m ≤ 9223372036854775807) (hXA : ∀ a, A = some a → 0 < n → a.block < g ∨ g + 3 ≤ a.block) (hXB : ∀ a, B = some a → 0 < m → a.block < g ∨ g + 3 ≤ a.block) :
    Calls Try.prog 30 #[.pointer (some ⟨g + 2, 0, none⟩), .agg #[.int .u8 (kd : Int), .int .i64 i, .slice A n c, .slice B m d]] w fun e w' => e = .returned (.bool (s.does kd i xs ks).1) ∧ Dk w' g (s.does kd i xs ks).2 ∧ Tn g (g + 3) w w' := by
  have kk : 0 ≤ (kd : Int) := by omega
  have hgl := h.lt
  have hcs : kd % 7 = 0 ∨ kd % 7 = 1 ∨ kd % 7 = 2 ∨ kd % 7 = 3 ∨ kd % 7 = 4 ∨ kd % 7 = 5 ∨ kd % 7 = 6 := by omega
  have hb1 : Below w.heap.size w (w.alloc (.cells #[.int .u8 (kd : Int), .int .i64 i, .slice A n c, .slice B m d] 36)) := (Below.refl _ _).alloc (Nat.le_refl _) _
  have ht1 : Tn g (g + 3) w (w.alloc (.cells #[.int .u8 (kd : Int), .int .i64 i, .slice A n c, .slice B m d] 36)) := Tn.ofBelow hb1 (Nat.le_refl _)
  have h1 := h.below hb1
  have hx1 := hx.below hb1
  have hk1 := Rd.below hk hb1
  rcases hcs with e | e | e | e | e | e | e
  all_goals
    have q := mod7 e
  · have He := Lib.hid (show s.does kd i xs ks = (decide ((s.write i xs).1 = 0), (s.write i xs).2) by simp [DS.does, e])
    have q2 := eq0 (s.write i xs).1
    clear e
    go_enter Try.func30, Try.ntmps30
    go_wp2_with fail
    refine (write_ g s i A n c xs _ h1 hx1 hA hnc hXA).mono ?_
    rintro e w2 ⟨rfl, h2, ht2⟩
    go_wp2
    go_ret
    rw [He.out]
    exact ⟨rfl, h2, ht1.trans ht2⟩
  · have He := Lib.hid (show s.does kd i xs ks = (decide ((s.read i).2 = 0), s) by simp [DS.does, e])
    have q2 := eq0 (s.read i).2
    clear e
    go_enter Try.func30, Try.ntmps30
    go_wp2_with fail
    refine (read_ g s i _ h1).mono ?_
    rintro e w2 ⟨v, rfl, _, _, hb2⟩
    go_wp2
    go_ret
    rw [He.out]
    exact ⟨rfl, h1.below hb2, ht1.trans (Tn.ofBelow hb2 (Nat.le_refl _))⟩
  · have He := Lib.hid (show s.does kd i xs ks = (decide (s.flush.1 = 0), s.flush.2) by simp [DS.does, e])
    have q2 := eq0 s.flush.1
    clear e
    go_enter Try.func30, Try.ntmps30
    go_wp2_with fail
    refine (flush_ g s _ h1).mono ?_
    rintro e w2 ⟨rfl, h2, ht2⟩
    go_wp2
    go_ret
    rw [He.out]
    exact ⟨rfl, h2, ht1.trans ht2⟩
  · have He := Lib.hid (show s.does kd i xs ks = (true, s.arm i) by simp [DS.does, e])
    clear e
    go_enter Try.func30, Try.ntmps30
    go_wp2_with fail
    refine (arm_ g s _ i h1 hi).mono ?_
    rintro e w2 ⟨rfl, h2, ht2⟩
    go_wp2
    go_ret
    rw [He.out]
    exact ⟨rfl, h2, ht1.trans (ht2.wide (by omega) (by omega))⟩
  · have He := Lib.hid (show s.does kd i xs ks = (true, s.cut) by simp [DS.does, e])
    clear e
    go_enter Try.func30, Try.ntmps30
    go_wp2_with fail
    refine (cut_ g s _ h1).mono ?_
    rintro e w2 ⟨rfl, h2, ht2⟩
    go_wp2
    go_ret
    rw [He.out]
    exact ⟨rfl, h2, ht1.trans (ht2.wide (by omega) (by omega))⟩
  · have He := Lib.hid (show s.does kd i xs ks = (decide ((s.start ks).1 = 0), (s.start ks).2) by simp [DS.does, e])
    have q2 := eq0 (s.start ks).1
    clear e
    go_enter Try.func30, Try.ntmps30
    go_wp2_with fail
    refine (start_ g s B m d ks _ h1 hk1 hm hXB).mono ?_
    rintro e w2 ⟨rfl, h2, ht2⟩
    go_wp2
    go_ret
    rw [He.out]
    exact ⟨rfl, h2, ht1.trans ht2⟩
  · have He := Lib.hid (show s.does kd i xs ks = (true, s) by simp [DS.does, e])
    clear e
    go_enter Try.func30, Try.ntmps30
    go_wp2
    go_ret
    rw [He.out]
    exact ⟨rfl, h1, ht1⟩
/-- The same but for power and fuse. -/
def Alike (s t : DS) : Prop := s.n = t.n ∧ s.plate = t.plate ∧ s.cache = t.cache
theorem alike_step (s : DS) : Alike s.step s := ⟨step_n s, step_plate s, step_cache s⟩
theorem refused_alike {s : DS} {kd : Nat} {i : Int} {xs : List UInt8} {ks : List Bool} (h3 : kd % 7 ≠ 3) (h4 : kd % 7 ≠ 4) (h : (s.does kd i xs ks).1 = false) : Alike (s.does kd i xs ks).2 s := by
  unfold DS.does at *
  by_cases c0 : kd % 7 = 0
  · simp only [c0, if_true] at h ⊢
    unfold DS.write at *
    by_cases hb : ¬ s.has i ∨ 64 < xs.length
    · rw [if_pos hb]; exact ⟨rfl, rfl, rfl⟩
    · rw [if_neg hb] at h ⊢
      cases ho : s.step.on with
      | true => rw [if_pos ho] at h; simp at h
      | false => rw [if_neg (by simp)]; exact alike_step s
  · rw [if_neg c0] at h ⊢
    by_cases c1 : kd % 7 = 1
    · rw [if_pos c1]; exact ⟨rfl, rfl, rfl⟩
    · rw [if_neg c1] at h ⊢
      by_cases c2 : kd % 7 = 2
      · rw [if_pos c2] at h ⊢
        unfold DS.flush at *
        cases ho : s.step.on with
        | true => rw [if_pos ho] at h; simp at h
        | false => rw [if_neg (by simp)]; exact alike_step s
      · rw [if_neg c2, if_neg h3, if_neg h4] at h ⊢
        by_cases c5 : kd % 7 = 5
        · rw [if_pos c5] at h ⊢
          unfold DS.start at *
          cases ho : s.on with
          | true => rw [if_pos rfl]; exact ⟨rfl, rfl, rfl⟩
          | false => rw [if_neg (by simp [ho])] at h; simp at h
        · rw [if_neg c5] at h; cases h

/-- What has been done. -/
theorem done_write {s : DS} {kd : Nat} {i : Int} {xs : List UInt8} {ks : List Bool} (h0 : kd % 7 = 0) (h : (s.does kd i xs ks).1 = true) :
    s.has i ∧ xs.length ≤ 64 ∧ (s.does kd i xs ks).2.plate = s.plate ∧ ∀ j, (s.does kd i xs ks).2.look j = if j = i.toNat then pad xs else s.look j := by
  unfold DS.does at *
  rw [if_pos h0] at h ⊢
  unfold DS.write at *
  by_cases hb : ¬ s.has i ∨ 64 < xs.length
  · rw [if_pos hb] at h; simp at h
  · rw [if_neg hb] at h ⊢
    cases ho : s.step.on with
    | false => rw [ho, if_neg (by simp)] at h; simp at h
    | true =>
      rw [if_pos rfl]
      refine ⟨Classical.byContradiction fun h => hb (.inl h), Nat.le_of_not_lt fun h => hb (.inr h), step_plate s, fun j => ?_⟩
      simp only [DS.look, put, step_plate]
      by_cases e : j = i.toNat
      · rw [if_pos e, if_pos e]; rfl
      · rw [if_neg e, if_neg e]
theorem done_flush {s : DS} {kd : Nat} {i : Int} {xs : List UInt8} {ks : List Bool} (h2 : kd % 7 = 2) (h : (s.does kd i xs ks).1 = true) :
    (s.does kd i xs ks).2.plate = s.look ∧ (s.does kd i xs ks).2.look = s.look := by
  unfold DS.does at *
  rw [if_neg (by omega), if_neg (by omega), if_pos h2] at h ⊢
  unfold DS.flush at *
  cases ho : s.step.on with
  | false => rw [ho, if_neg (by simp)] at h; simp at h
  | true =>
    rw [if_pos rfl]
    exact ⟨rfl, rfl⟩
theorem done_start {s : DS} {kd : Nat} {i : Int} {xs : List UInt8} {ks : List Bool} (h5 : kd % 7 = 5) (h : (s.does kd i xs ks).1 = true) :
    (s.does kd i xs ks).2.on = true ∧ (s.does kd i xs ks).2.plate = (s.does kd i xs ks).2.look ∧ ∀ j, (s.does kd i xs ks).2.look j = s.plate j ∨ (s.does kd i xs ks).2.look j = s.look j := by
  unfold DS.does at *
  rw [if_neg (by omega), if_neg (by omega), if_neg (by omega), if_neg (by omega), if_neg (by omega), if_pos h5] at h ⊢
  unfold DS.start at *
  cases ho : s.on with
  | true => rw [ho, if_pos rfl] at h; simp at h
  | false =>
    rw [if_neg (by simp)]
    refine ⟨rfl, rfl, fun j => ?_⟩
    show s.woken ks j = s.plate j ∨ s.woken ks j = s.look j
    unfold DS.woken DS.look
    cases s.cache j with
    | none => exact .inl rfl
    | some x =>
      simp only [Option.getD_some]
      split
      · exact .inr rfl
      · exact .inl rfl
theorem done_other {s : DS} {kd : Nat} {i : Int} {xs : List UInt8} {ks : List Bool} (h0 : kd % 7 ≠ 0) (h2 : kd % 7 ≠ 2) (h5 : kd % 7 ≠ 5) :
    (s.does kd i xs ks).2.plate = s.plate ∧ (s.does kd i xs ks).2.look = s.look := by
  unfold DS.does
  rw [if_neg h0]
  by_cases c1 : kd % 7 = 1
  · rw [if_pos c1]; exact ⟨rfl, rfl⟩
  · rw [if_neg c1, if_neg h2]
    by_cases c3 : kd % 7 = 3
    · rw [if_pos c3]; exact ⟨rfl, rfl⟩
    · rw [if_neg c3]
      by_cases c4 : kd % 7 = 4
      · rw [if_pos c4]; exact ⟨rfl, rfl⟩
      · rw [if_neg c4, if_neg h5]; exact ⟨rfl, rfl⟩
theorem undone {s : DS} {kd : Nat} {i : Int} {xs : List UInt8} {ks : List Bool} (h : (s.does kd i xs ks).1 = false) :
    (s.does kd i xs ks).2.plate = s.plate ∧ (s.does kd i xs ks).2.look = s.look := by
  by_cases h3 : kd % 7 = 3
  · exact done_other (by omega) (by omega) (by omega)
  · by_cases h4 : kd % 7 = 4
    · exact done_other (by omega) (by omega) (by omega)
    · obtain ⟨_, h1, h2⟩ := refused_alike h3 h4 h
      exact ⟨h1, by funext j; unfold DS.look; rw [h1, h2]⟩
theorem read_on {s : DS} (h : s.on = true) {j : Nat} (hj : j < s.n) : s.read j = (s.look j, 0) := by
  unfold DS.read
  rw [if_neg (fun h => h ⟨by omega, by omega⟩), if_pos h]; rfl
end Go.Proofs.Ytbppkdfmiegipaa
