/- The statements' own function restart, of layer 4. -/
import Derived.Test.YtlpbdnncbinbmaaWalJ
import Derived.Test.YtlpbdnncbinbmaaShp
import Derived.BigQuiet
namespace Go.Proofs.Ytlpbdnncbinbmaa
open Go.ChangeShapes Go.WideShapes Go.ChangeAt Go.RowKit Go.Maps

theorem and1 : ∀ i : Nat, i < 8 → bits BinOp.and IntKind.i64 (i : Int) 1 = ((i % 2 : Nat) : Int) := by decide +kernel
theorem arm_up {s : DS} (h : Up s) (k : Int) : Up (s.arm k) := ⟨h.on, h.cache⟩
/-- Whatever is kept, a log is there that K tells of. -/
def Rec (K : Nat → (Nat → List UInt8) → Prop) (N T : Nat) (s : DS) : Prop := ∀ keep, ∃ t n P, t ≤ T ∧ n ≤ topN ∧ K n P ∧ Jn (s.woken keep) N t n P
theorem Rec.again {K : Nat → (Nat → List UInt8) → Prop} {N T : Nat} {s : DS} (h : Rec K N T s) (ks : List Bool) : ∃ t n P, t ≤ T ∧ n ≤ topN ∧ K n P ∧ Jn (again s ks).plate N t n P := h ks
theorem St.rec_ {K : Nat → (Nat → List UInt8) → Prop} {T t n : Nat} {P : Nat → List UInt8} {s : DS} (h : St s t n P) (ht : t ≤ T) (hn : n ≤ topN) (hK : K n P) : Rec K s.n T s := fun keep => ⟨t, n, P, ht, hn, hK, by rw [h.up.woken]; exact h.jn⟩

set_option maxRecDepth 100000 in
set_option maxHeartbeats 4000000 in
theorem restart_ (K : Nat → (Nat → List UInt8) → Prop) (g T : Nat) (s : DS) (v0 : Value) (fuse : Int) (B : Option Addr) (m d : Nat) (ks : List Bool) (C : Option Addr) (k c : Nat) (ag : List UInt8) (w : World) (h0 : v0.oneCell' = true)
    (h : Dk w g s) (hN : 10 ≤ s.n) (hR : Rec K s.n T s) (hT : T + 7 ≤ topN)
    (hk : Bls w B m ks) (hm : m ≤ 9223372036854775807) (hBo : ∀ a, B = some a → 0 < m → a.block < g ∨ g + 3 ≤ a.block)
    (ha : Bs w C k ag) (hC : C = none → k = 0 ∧ c = 0) (hkc : k ≤ c) (hc : c ≤ 140737488351232) (hCo : ∀ a, C = some a → 0 < k → a.block < g ∨ g + 3 ≤ a.block) :
    Calls Try.prog 21 #[.pointer (some ⟨g + 2, 0, none⟩), .agg #[v0, .int .i64 fuse, .slice B m d, .slice C k c]] w fun e w' => ∃ b s' t n P, e = .returned (.tuple #[.pointer (some ⟨b, 0, none⟩), .bool true]) ∧ K n P ∧ t ≤ T + 7 ∧ n ≤ topN ∧ St s' t n P ∧ Lk w' g b s' n ∧ s'.n = s.n ∧ s'.fuse = -1 ∧ Tn g (g + 3) w w' ∧ w.heap.size ≤ b := by
  have hgl := h.lt
  have hT' : T + 7 ≤ 4611686018427387904 := hT
  have hbx : Blk (w.alloc (.cells #[v0, .int .i64 fuse, .slice B m d, .slice C k c] 38)) w.heap.size 38 #[v0, .int .i64 fuse, .slice B m d, .slice C k c] := Blk.new w _ _ rfl
  have hd0 := h.alloc (.cells #[v0, .int .i64 fuse, .slice B m d, .slice C k c] 38)
  have hk0 : Bls (w.alloc (.cells #[v0, .int .i64 fuse, .slice B m d, .slice C k c] 38)) B m ks := Rd.alloc hk _
  have ha0 : Bs (w.alloc (.cells #[v0, .int .i64 fuse, .slice B m d, .slice C k c] 38)) C k ag := ha.alloc _
  have hT0 : Tn g (g + 3) w (w.alloc (.cells #[v0, .int .i64 fuse, .slice B m d, .slice C k c] 38)) := Tn.alloc _ _
  have hs0 : w.heap.size ≤ (w.alloc (.cells #[v0, .int .i64 fuse, .slice B m d, .slice C k c] 38)).heap.size := by simp
  go_enter Try.func21, Try.ntmps21
  go_wp2_with fail
  generalize w.alloc (.cells #[v0, .int .i64 fuse, .slice B m d, .slice C k c] 38) = w0 at *
  refine (cut_ g s _ hd0).mono ?_
  rintro e w1 ⟨rfl, h1, ht1⟩
  have ht1 := ht1.wide (show g ≤ g + 2 by omega) (Nat.le_refl _)
  have hb1 := ht1.blk hbx (.inr (by omega))
  have hk1 : Bls w1 B m ks := ht1.rd hk0 hBo
  have c2 := hb1.cell (j := 2) (u := .slice B m d) rfl
  go_wp2_with fail
  refine (start_ g s.cut B m d ks _ h1 hk1 hm hBo).mono ?_
  rw [cut_start]
  rintro e w2 ⟨rfl, h2, ht2⟩
  have h2 : Dk w2 g (again s ks) := h2
  have hT2 : Tn g (g + 3) w0 w2 := ht1.trans ht2
  have hb2 := hT2.blk hbx (.inr (by omega))
  have c3 := hb2.cell (j := 3) (u := .slice C k c) rfl
  obtain ⟨q, hq, hqm, hmn⟩ : ∃ q : Nat, min (k : Int) 6 = (q : Int) ∧ q ≤ k ∧ q ≤ 6 := by
    by_cases h : k ≤ 6
    · exact ⟨k, by omega, Nat.le_refl _, h⟩
    · exact ⟨6, by omega, by omega, Nat.le_refl _⟩
  have hqi : (q : Int) ≤ (c : Int) := by omega
  have hk62 : (k : Int) ≤ 140737488351232 := by omega
  go_wp2_with fail
  go_loopw [28] (fun i wr => ∃ j : Nat, j ≤ q ∧ i = .int .i64 (j : Int) ∧ ∃ sj tj nj Pj, Dk wr g sj ∧ sj.n = s.n ∧ Up sj ∧ sj.fuse = -1 ∧ tj ≤ T + j ∧ nj ≤ topN ∧ K nj Pj ∧ Jn sj.plate s.n tj nj Pj ∧ Tn g (g + 3) w0 wr) (fun i _ => q - (intOf i).toNat)
  case atStart =>
    obtain ⟨t, n, P, h1, h2', h3, h4⟩ := hR.again ks
    exact ⟨0, Nat.zero_le _, rfl, again s ks, t, n, P, h2, rfl, again_up _ _, rfl, h1, h2', h3, h4, hT2⟩
  case round =>
    obtain ⟨j, hj, rfl, sj, tj, nj, Pj, hd, hnj, hup, hfj, htj, hnn, hKj, hJj, hTj⟩ := hrel
    clear h1 h2 ht1 ht2 hT2 hb1 hb2 c2 c3 hk1 hd0 h hk ha hR
    have hbj := hTj.blk hbx (.inr (by omega))
    have hkj : Bls wr B m ks := hTj.rd hk0 hBo
    have hzj := hTj.size
    have hglj := hd.lt
    have b2 := hbj.cell (j := 2) (u := .slice B m d) rfl
    have b3 := hbj.cell (j := 3) (u := .slice C k c) rfl
    have hn' : nj ≤ 4611686018427387904 := hnn
    by_cases hlt : j < q
    · obtain ⟨qb, qo, rfl, hx, hc0⟩ := ha0.at_ (show j < k by omega)
      have hcc : wr.cell? ⟨qb, qo + j, none⟩ = _ := hTj.cell hc0 (by have := hCo ⟨qb, qo, none⟩ rfl (by omega); exact this)
      obtain ⟨z, hz⟩ : ∃ z : Nat, ag[j].toNat = z ∧ z < 256 := ⟨_, rfl, ag[j].toNat_lt⟩
      rw [hz.1] at hcc
      have hz2 := hz.2
      have hjq : (j : Int) < (q : Int) := by omega
      clear hc0 hz
      go_wp2_with fail
      refine (arm_ g sj wr _ hd (by omega)).mono ?_
      rintro e w3 ⟨rfl, h3, ht3⟩
      have hup3 := arm_up hup ((z : Int) % 24)
      have hJ3 : Jn (sj.arm ((z : Int) % 24)).plate (sj.arm ((z : Int) % 24)).n tj nj Pj := by show Jn sj.plate sj.n tj nj Pj; rw [hnj]; exact hJj
      have hn3 : (sj.arm ((z : Int) % 24)).n = s.n := hnj
      have hT3 := hTj.trans (ht3.wide (show g ≤ g + 2 by omega) (Nat.le_refl _))
      have hgl3 := h3.lt
      generalize sj.arm ((z : Int) % 24) = s3 at *
      clear hd hup hfj hJj ht3
      go_wp2_with fail
      refine (open_log g s3 tj nj Pj w3 h3 (by omega) hup3 hJ3 (by unfold topN; omega) hnn).mono ?_
      rintro e w4 ⟨s4, hd4, hfz4, ht4, hO⟩
      have hT4 := hT3.trans ht4
      have hn4 : s4.n = s.n := hfz4.n.trans hn3
      clear hT3
      obtain ⟨b4, t4, hle, hle4, rfl, hb4, hst4, hL4⟩ | ⟨rfl, hf, hoff, hQ⟩ := hO
      · have hon := hst4.up.on
        have ho := on_ g s4 w4 hd4
        rw [hon] at ho
        go_wp2_with fail
        refine ho.mono ?_
        rintro e w' ⟨rfl, rfl⟩
        go_wp2_with fail
        refine (arm_ g s4 w4 (-1) hd4 (by omega)).mono ?_
        rintro e w5 ⟨rfl, h5, ht5⟩
        have hR5 : Rec K s.n (T + (j + 1)) (s4.arm (-1)) := fun keep => ⟨t4, nj, Pj, by omega, hnn, hKj, by show Jn (s4.woken keep) s.n _ _ _; rw [hst4.up.woken, ← hn4]; exact hst4.jn⟩
        have hn5 : (s4.arm (-1)).n = s.n := hn4
        have hT5 := hT4.trans (ht5.wide (show g ≤ g + 2 by omega) (Nat.le_refl _))
        clear hst4 hL4 ht4 ht5 hT4
        generalize s4.arm (-1) = s5 at *
        go_wp2_with fail
        refine (cut_ g s5 _ h5).mono ?_
        rintro e w6 ⟨rfl, h6, ht6⟩
        have hT6 := hT5.trans (ht6.wide (show g ≤ g + 2 by omega) (Nat.le_refl _))
        have hb6 := hT6.blk hbx (.inr (by omega))
        have e2 := hb6.cell (j := 2) (u := .slice B m d) rfl
        have hk6 : Bls w6 B m ks := hT6.rd hk0 hBo
        have had := and1 j (by omega)
        rcases Nat.mod_two_eq_zero_or_one j with hp | hp
        · rw [hp] at had
          have Had := Lib.hid had
          go_wp2_with fail
          refine (start_ g s5.cut B m d ks _ h6 hk6 hm hBo).mono ?_
          rw [cut_start]
          rintro e w7 ⟨rfl, h7, ht7⟩
          have h7 : Dk w7 g (again s5 ks) := h7
          obtain ⟨t, n, P, i1, i2, i3, i4⟩ := hR5.again ks
          go_wp2
          go_roundw
          case rel => exact ⟨j + 1, by omega, by go_num, again s5 ks, t, n, P, h7, hn5, again_up _ _, rfl, i1, i2, i3, i4, hT6.trans ht7⟩
          case measure => simp [intOf]; omega
        · rw [hp] at had
          go_wp2_with fail
          refine (start_ g s5.cut none 0 0 [] _ h6 Rd.nil (by omega) (fun a ha => by cases ha)).mono ?_
          rw [cut_start]
          rintro e w7 ⟨rfl, h7, ht7⟩
          have h7 : Dk w7 g (again s5 []) := h7
          obtain ⟨t, n, P, i1, i2, i3, i4⟩ := hR5.again []
          go_wp2
          go_roundw
          case rel => exact ⟨j + 1, by omega, by go_num, again s5 [], t, n, P, h7, hn5, again_up _ _, rfl, i1, i2, i3, i4, hT6.trans ht7⟩
          case measure => simp [intOf]; omega
      · have h5 := hd4
        have hR5 : Rec K s.n (T + (j + 1)) s4 := fun keep => by
          obtain ⟨t', h1, h2, h3⟩ := hQ keep
          exact ⟨t', nj, Pj, by omega, hnn, hKj, by rw [← hn3]; exact h3⟩
        have hn5 := hn4
        have hT5 := hT4
        clear hd4 hn4 ht4 hT4 hQ
        go_wp2_with fail
        refine (cut_ g s4 _ h5).mono ?_
        rintro e w6 ⟨rfl, h6, ht6⟩
        have hT6 := hT5.trans (ht6.wide (show g ≤ g + 2 by omega) (Nat.le_refl _))
        have hb6 := hT6.blk hbx (.inr (by omega))
        have e2 := hb6.cell (j := 2) (u := .slice B m d) rfl
        have hk6 : Bls w6 B m ks := hT6.rd hk0 hBo
        have had := and1 j (by omega)
        rcases Nat.mod_two_eq_zero_or_one j with hp | hp
        · rw [hp] at had
          have Had := Lib.hid had
          go_wp2_with fail
          refine (start_ g s4.cut B m d ks _ h6 hk6 hm hBo).mono ?_
          rw [cut_start]
          rintro e w7 ⟨rfl, h7, ht7⟩
          have h7 : Dk w7 g (again s4 ks) := h7
          obtain ⟨t, n, P, i1, i2, i3, i4⟩ := hR5.again ks
          go_wp2
          go_roundw
          case rel => exact ⟨j + 1, by omega, by go_num, again s4 ks, t, n, P, h7, hn5, again_up _ _, rfl, i1, i2, i3, i4, hT6.trans ht7⟩
          case measure => simp [intOf]; omega
        · rw [hp] at had
          go_wp2_with fail
          refine (start_ g s4.cut none 0 0 [] _ h6 Rd.nil (by omega) (fun a ha => by cases ha)).mono ?_
          rw [cut_start]
          rintro e w7 ⟨rfl, h7, ht7⟩
          have h7 : Dk w7 g (again s4 []) := h7
          obtain ⟨t, n, P, i1, i2, i3, i4⟩ := hR5.again []
          go_wp2
          go_roundw
          case rel => exact ⟨j + 1, by omega, by go_num, again s4 [], t, n, P, h7, hn5, again_up _ _, rfl, i1, i2, i3, i4, hT6.trans ht7⟩
          case measure => simp [intOf]; omega
    · obtain rfl : j = q := by omega
      go_wp2_with fail
      refine (open_log g sj tj nj Pj wr hd (by omega) hup (by rw [hnj]; exact hJj) (by unfold topN; omega) hnn).mono ?_
      rintro e w4 ⟨s4, hd4, hfz4, ht4, hO⟩
      have hT4 := hTj.trans ht4
      have hf4 := hfz4.fuse (by omega)
      obtain ⟨b4, t4, hle, hle4, rfl, hb4, hst4, hL4⟩ | ⟨rfl, hf, hoff, hQ⟩ := hO
      · go_wp2
        go_ret2
        exact ⟨b4, s4, t4, nj, Pj, rfl, hKj, by omega, hnn, hst4, hL4, hfz4.n.trans hnj, by omega, hT0.trans hT4, by omega⟩
      · omega
end Go.Proofs.Ytlpbdnncbinbmaa
