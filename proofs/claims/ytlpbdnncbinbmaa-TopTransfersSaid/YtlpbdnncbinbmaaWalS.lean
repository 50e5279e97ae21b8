/- Scripts of changes, as arguments. -/
import Derived.Test.YtlpbdnncbinbmaaWalK
namespace Go.Proofs.Ytlpbdnncbinbmaa
open Go.ChangeShapes Go.WideShapes Go.ChangeAt Go.RowKit Go.Maps

theorem Uss.ofAt {w : World} {lo hi : Nat} {A : Option Addr} {n : Nat} {l : List Upd} (hn : n = l.length)
    (h : ∀ k (hk : k < l.length), ∃ b o X m c, A = some ⟨b, o, none⟩ ∧ w.cell? ⟨b, o + k * 2, none⟩ = some (.int .i64 l[k].1) ∧ w.cell? ⟨b, o + k * 2 + 1, none⟩ = some (.slice X m c) ∧ Bs w X m l[k].2 ∧ (X = none → m = 0 ∧ c = 0) ∧ m ≤ c ∧ c ≤ maxLen ∧ (∀ a, X = some a → 0 < m → a.block < lo ∨ hi ≤ a.block) ∧ (b < lo ∨ hi ≤ b)) :
    Uss w lo hi A n l := by
  by_cases h0 : n = 0
  · have : l = [] := List.eq_nil_of_length_eq_zero (by omega)
    subst this h0
    exact ⟨rfl, [], ⟨by simp, fun j u hu => by simp at hu⟩, UC.nil, fun a _ h => by omega⟩
  · obtain ⟨b, o, _, _, _, rfl, _, _, _, _, _, _, _, hbo⟩ := h 0 (by omega)
    have hcs : ∀ j, j < 2 * n → ((List.range (2 * n)).map fun j => (w.cell? ⟨b, o + j, none⟩).getD undef)[j]? = some ((w.cell? ⟨b, o + j, none⟩).getD undef) := fun j hj => by
      rw [List.getElem?_map, List.getElem?_range hj]; rfl
    have hk : ∀ k (hk : k < l.length), ∃ X m c, w.cell? ⟨b, o + 2 * k, none⟩ = some (.int .i64 l[k].1) ∧ w.cell? ⟨b, o + (2 * k + 1), none⟩ = some (.slice X m c) ∧ Bs w X m l[k].2 ∧ (X = none → m = 0 ∧ c = 0) ∧ m ≤ c ∧ c ≤ maxLen ∧ (∀ a, X = some a → 0 < m → a.block < lo ∨ hi ≤ a.block) := fun k hk => by
      obtain ⟨b', o', X, m, c, e, h1, h2, h3, h4, h5, h6, h7, _⟩ := h k hk
      injection e with e
      injection e with e1 e2
      subst e1 e2
      exact ⟨X, m, c, by rw [Nat.mul_comm 2 k]; exact h1, by rw [Nat.mul_comm 2 k]; exact h2, h3, h4, h5, h6, h7⟩
    refine ⟨hn, (List.range (2 * n)).map fun j => (w.cell? ⟨b, o + j, none⟩).getD undef, ⟨by simp; omega, fun j u hu => ⟨b, o, rfl, ?_⟩⟩, ⟨by simp; omega, fun k hk' => ?_⟩, fun a ha _ => by injection ha with ha; subst ha; exact hbo⟩
    · have hj : j < 2 * n := by have := (List.getElem?_eq_some_iff.1 hu).1; simpa using this
      rw [hcs j hj] at hu
      injection hu with hu
      obtain ⟨X, m, c, h1, h2, _⟩ := hk (j / 2) (by omega)
      rcases Nat.mod_two_eq_zero_or_one j with e | e
      · rw [show 2 * (j / 2) = j by omega] at h1
        rw [h1] at hu ⊢
        rw [← hu]; rfl
      · rw [show 2 * (j / 2) + 1 = j by omega] at h2
        rw [h2] at hu ⊢
        rw [← hu]; rfl
    · obtain ⟨X, m, c, h1, h2, r⟩ := hk k hk'
      refine ⟨by rw [hcs _ (by omega), h1]; rfl, X, m, c, by rw [hcs _ (by omega), h2]; rfl, r⟩

abbrev UpdV : Type := Int × List UInt8 × Unit
def updShp : Shp UpdV := Shp.agg (Shp.pair (Shp.int .i64 (-9223372036854775808) 9223372036854775807) (Shp.pair (Shp.slice Shp.u8 1) Shp.unit))
def toU (l : List UpdV) : List Upd := l.map fun u => (u.1, u.2.1)
theorem upd_is {w : World} {cs : List Value} {a : UpdV} (h : updShp.R w cs a) : ∃ X m c, cs = [.int .i64 a.1, .slice X m c] ∧ Bs w X m a.2.1 ∧ (X = none → m = 0 ∧ c = 0) ∧ m ≤ c ∧ c ≤ 140737488351232 ∧ -9223372036854775808 ≤ a.1 ∧ a.1 ≤ 9223372036854775807 := by
  obtain ⟨c1, r1, rfl, hl1, ⟨h1, h1a, h1b⟩, c2, r2, rfl, hl2, h2, h3⟩ := h
  have h3 : r2 = [] := h3
  subst h1 h3
  have h2' := h2
  obtain ⟨A, c, rfl, _⟩ := h2'
  obtain ⟨p1, p2, p3, p4⟩ := bs_shp h2
  exact ⟨A, _, c, rfl, p1, p3, p2, p4, h1a, h1b⟩
theorem uss_shp {w : World} {A : Option Addr} {n c : Nat} {l : List UpdV} {lo hi : Nat} (h : (Shp.slice updShp 32).R w [.slice A n c] l) (hlo : w.heap.size ≤ lo) : Uss w lo hi A n (toU l) ∧ n * 32 ≤ 140737488351232 ∧ n ≤ c := by
  obtain ⟨A', c', e, h1, h2, h3, h4, h5⟩ := h
  simp only [List.cons.injEq, Value.slice.injEq, and_true] at e
  obtain ⟨rfl, rfl, rfl⟩ := e
  refine ⟨Uss.ofAt (by simp [toU]) fun k hk => ?_, by omega, h1⟩
  have hk' : k < l.length := by simpa [toU] using hk
  obtain ⟨b, o, vs, rfl, hl, hc, hr⟩ := h5 k hk'
  obtain ⟨X, m, xc, rfl, hb, hX, hmc, hcm, _, _⟩ := upd_is hr
  have c0 := hc 0 _ rfl
  have c1 := hc 1 _ rfl
  have e : (toU l)[k] = (l[k].1, l[k].2.1) := by simp [toU]
  refine ⟨b, o, X, m, xc, rfl, by rw [e]; exact c0, c1, by rw [e]; exact hb, hX, hmc, by unfold maxLen; omega, fun a ha h0 => ?_, ?_⟩
  · have := rd_block hb a ha h0; omega
  · have : b < w.heap.size := cell_lt c0
    omega

abbrev ActV : Type := List UpdV × Int × List Bool × List UInt8 × Unit
def actShp : Shp ActV := Shp.agg (Shp.pair (Shp.slice updShp 32) (Shp.pair (Shp.int .i64 (-9223372036854775808) 9223372036854775807) (Shp.pair (Shp.slice Shp.bool 1) (Shp.pair (Shp.slice Shp.u8 1) Shp.unit))))
theorem bls_shp {w : World} {A : Option Addr} {n c : Nat} {ks : List Bool} (h : (Shp.slice Shp.bool 1).R w [.slice A n c] ks) : Bls w A n ks ∧ n ≤ c ∧ (A = none → n = 0 ∧ c = 0) ∧ c ≤ 140737488351232 := by
  obtain ⟨A', c', e, h1, h2, h3, h4, h5⟩ := h
  simp only [List.cons.injEq, Value.slice.injEq, and_true] at e
  obtain ⟨rfl, rfl, rfl⟩ := e
  refine ⟨⟨by simp, fun j u hu => ?_⟩, h1, fun h => ⟨by have := h4 h; omega, h4 h⟩, by omega⟩
  have hj : j < ks.length := by have := (List.getElem?_eq_some_iff.1 hu).1; simpa using this
  obtain ⟨b, o, vs, rfl, hl, hc, hr⟩ := h5 j hj
  have hr : vs = [.bool ks[j]] := hr
  subst hr
  simp only [List.getElem?_map, List.getElem?_eq_getElem hj, Option.map_some, Option.some.injEq] at hu
  refine ⟨b, o, rfl, ?_⟩
  have := hc 0 _ rfl
  simp only [Shp.bool, Nat.mul_one, Nat.add_zero] at this
  rw [← hu]
  exact this
/-- One change, as it lies in a later world. -/
structure ActIs (W w : World) (A : Option Addr) (un uc : Nat) (l : List Upd) (f : Int) (B : Option Addr) (m d : Nat) (ks : List Bool) (C : Option Addr) (k c : Nat) (ag : List UInt8) : Prop where
  uss : ∀ lo hi, W.heap.size ≤ lo → Uss w lo hi A un l
  unLe : un * 32 ≤ 140737488351232
  fIn : -9223372036854775808 ≤ f ∧ f ≤ 9223372036854775807
  bls : Bls w B m ks
  mLe : m ≤ 140737488351232
  bB : ∀ a, B = some a → 0 < m → a.block < W.heap.size
  bs : Bs w C k ag
  hC : C = none → k = 0 ∧ c = 0
  kc : k ≤ c
  cLe : c ≤ 140737488351232
  bC : ∀ a, C = some a → 0 < k → a.block < W.heap.size
theorem ActIs.below {W w w' : World} {A : Option Addr} {un uc : Nat} {l : List Upd} {f : Int} {B : Option Addr} {m d : Nat} {ks : List Bool} {C : Option Addr} {k c : Nat} {ag : List UInt8} (h : ActIs W w A un uc l f B m d ks C k c ag) (hW : W.heap.size ≤ w.heap.size) (hb : Below W.heap.size w w') : ActIs W w' A un uc l f B m d ks C k c ag := by
  have ht : Tn W.heap.size w.heap.size w w' := ⟨hb.os, hb.tape, hb.output, hb.size, fun i hi ho => by
    rcases ho with ho | ho
    · exact hb.block i ho
    · omega⟩
  refine ⟨fun lo hi hlo => ?_, h.unLe, h.fIn, ht.rd h.bls fun a ha h0 => .inl (h.bB a ha h0), h.mLe, h.bB, ht.bs h.bs fun a ha h0 => .inl (h.bC a ha h0), h.hC, h.kc, h.cLe, h.bC⟩
  by_cases hn : w.heap.size ≤ hi
  · exact (((h.uss W.heap.size hi (Nat.le_refl _)).tn ht (Nat.le_refl _) hn)).wide hlo (Nat.le_refl _)
  · exact (((h.uss W.heap.size w.heap.size (Nat.le_refl _)).tn ht (Nat.le_refl _) (Nat.le_refl _))).wide hlo (by omega)
theorem acts_len {w : World} {A : Option Addr} {n c : Nat} {l : List ActV} (h : (Shp.slice actShp 80).R w [.slice A n c] l) : n * 80 ≤ 140737488351232 := by
  obtain ⟨A', c', e, h1, h2, h3, _⟩ := h
  simp only [List.cons.injEq, Value.slice.injEq, and_true] at e
  obtain ⟨rfl, rfl, rfl⟩ := e
  omega
/-- Change k of a script, as it lies in a later world. -/
theorem acts_later {W w : World} {S : Option Addr} {n c : Nat} {l : List ActV} (h : (Shp.slice actShp 80).R W [.slice S n c] l) (hb : Below W.heap.size W w) {k : Nat} (hk : k < n) :
    ∃ b o, S = some ⟨b, o, none⟩ ∧ ∃ A un uc ul f B m d ks C ck cc ag, w.cell? ⟨b, o + k * 4, none⟩ = some (.slice A un uc) ∧ w.cell? ⟨b, o + k * 4 + 1, none⟩ = some (.int .i64 f) ∧ w.cell? ⟨b, o + k * 4 + 2, none⟩ = some (.slice B m d) ∧ w.cell? ⟨b, o + k * 4 + 3, none⟩ = some (.slice C ck cc) ∧
      ActIs W w A un uc ul f B m d ks C ck cc ag := by
  obtain ⟨A', c', e, h1, h2, h3, h4, h5⟩ := h
  simp only [List.cons.injEq, Value.slice.injEq, and_true] at e
  obtain ⟨rfl, rfl, rfl⟩ := e
  obtain ⟨b, o, vs, rfl, hl, hc, hr⟩ := h5 k hk
  obtain ⟨c1, r1, rfl, hl1, q1, c2, r2, rfl, hl2, ⟨q2, q2a, q2b⟩, c3, r3, rfl, hl3, q3, c4, r4, rfl, hl4, q4, q5⟩ := hr
  have q5 : r4 = [] := q5
  subst q2 q5
  have q1' := q1
  have q3' := q3
  have q4' := q4
  obtain ⟨A, uc, rfl, _⟩ := q1'
  obtain ⟨B, d, rfl, _⟩ := q3'
  obtain ⟨C, cc, rfl, _⟩ := q4'
  obtain ⟨p1, p2, p3, p4⟩ := bls_shp q3
  obtain ⟨s1, s2, s3, s4⟩ := bs_shp q4
  have hc' : ∀ (j : Nat) u, ([Value.slice A (l[k].1.length) uc, .int .i64 l[k].2.1, .slice B _ d, .slice C _ cc] : List Value)[j]? = some u → w.cell? ⟨b, o + k * 4 + j, none⟩ = some u := fun j u hu => (hb.cell (cell_lt (hc j u hu))).trans (hc j u hu)
  exact ⟨b, o, rfl, A, _, uc, _, l[k].2.1, B, _, d, _, C, _, cc, _, hc' 0 _ rfl, hc' 1 _ rfl, hc' 2 _ rfl, hc' 3 _ rfl,
    ⟨fun lo hi hlo => (uss_shp q1 hlo).1.below hb, (uss_shp (lo := W.heap.size) (hi := 0) q1 (Nat.le_refl _)).2.1, ⟨q2a, q2b⟩, Rd.below p1 hb, by omega, rd_block p1, s1.below hb, s3, s2, s4, rd_block s1⟩⟩

theorem ops_upd : Opens Try.prog 61 updShp :=
  opens_struct Try.underlying61 (by kernel_rfl) (opensF_cons (opens_int _ _ Try.underlying3 (by kernel_rfl) wf_i64) rfl (opensF_cons (opens_slice 1 Try.underlying36 (by kernel_rfl) (by kernel_rfl) (by decide) (opens_u8 Try.underlying5 (by kernel_rfl))) rfl (opensF_nil _)))
theorem ops_upds : Opens Try.prog 34 (Shp.slice updShp 32) := opens_slice 32 Try.underlying34 (by kernel_rfl) (by kernel_rfl) (by decide) ops_upd
theorem ops_act : Opens Try.prog 38 actShp :=
  opens_struct Try.underlying38 (by kernel_rfl) (opensF_cons ops_upds rfl (opensF_cons (opens_int _ _ Try.underlying3 (by kernel_rfl) wf_i64) rfl
    (opensF_cons (opens_slice 1 Try.underlying35 (by kernel_rfl) (by kernel_rfl) (by decide) (opens_bool Try.underlying4 (by kernel_rfl))) rfl (opensF_cons (opens_slice 1 Try.underlying36 (by kernel_rfl) (by kernel_rfl) (by decide) (opens_u8 Try.underlying5 (by kernel_rfl))) rfl (opensF_nil _)))))
theorem ops_acts : Opens Try.prog 22 (Shp.slice actShp 80) := opens_slice 80 Try.underlying22 (by kernel_rfl) (by kernel_rfl) (by decide) ops_act
theorem ops_bools : Opens Try.prog 35 (Shp.slice Shp.bool 1) := opens_slice 1 Try.underlying35 (by kernel_rfl) (by kernel_rfl) (by decide) (opens_bool Try.underlying4 (by kernel_rfl))
theorem ops_bytes : Opens Try.prog 36 (Shp.slice Shp.u8 1) := opens_slice 1 Try.underlying36 (by kernel_rfl) (by kernel_rfl) (by decide) (opens_u8 Try.underlying5 (by kernel_rfl))

/-! ### Commit, whatever the change is -/
def Kc (n : Nat) (P : Nat → List UInt8) (l : List Upd) (m : Nat) (Q : Nat → List UInt8) : Prop := (m = n ∧ Q = P) ∨ (m = n + 1 ∧ Q = doneP l P)
/-- What Commit comes to. -/
def Comm (s : DS) (t n : Nat) (P : Nat → List UInt8) (l : List Upd) (E : Nat) (s' : DS) (n' : Nat) : Prop :=
  (rightE (s.n - 9) l ≠ 0 ∧ E = rightE (s.n - 9) l ∧ s' = s ∧ n' = n) ∨
  (rightE (s.n - 9) l = 0 ∧ E = 0 ∧ n' = n + 1 ∧ ∃ t', t' ≤ t + 2 ∧ St s' t' (n + 1) (doneP l P)) ∨
  (rightE (s.n - 9) l = 0 ∧ E = 8 ∧ n' = n ∧ 0 ≤ s.fuse ∧ Rec (Kc n P l) s.n (t + 2) s')
theorem commit_any (g b : Nat) (s : DS) (t n : Nat) (P : Nat → List UInt8) (A : Option Addr) (un c : Nat) (l : List Upd) (w : World) (h : Lk w g b s n) (hs : St s t n P) (hU : Uss w g (b + 1) A un l) (hun : un ≤ 9223372036854775807) (ht : t + 2 ≤ topN) (hn : n + 1 ≤ topN) :
    Calls Try.prog 15 #[.pointer (some ⟨b, 0, none⟩), .slice A un c] w fun e w' => ∃ E s' n', e = .returned (.int .i64 (E : Nat)) ∧ Fz s s' ∧ Tl g b w w' ∧ Lk w' g b s' n' ∧ Comm s t n P l E s' n' := by
  by_cases hr : rightE (s.n - 9) l = 0
  · refine (commit_ g b s t n P A un c l w h hs hU hun hr ht hn).mono ?_
    rintro e w' ⟨s', hfz, hT, hD⟩
    obtain ⟨t', h1, h2, rfl, h3, h4⟩ | ⟨rfl, h1, h2, h3, h4⟩ := hD
    · exact ⟨0, s', n + 1, rfl, hfz, hT, h4, .inr (.inl ⟨hr, rfl, rfl, t', h2, h3⟩)⟩
    · refine ⟨8, s', n, rfl, hfz, hT, h3, .inr (.inr ⟨hr, rfl, rfl, h1, fun keep => ?_⟩)⟩
      obtain ⟨t', i1, i2, i3⟩ := h4 keep
      rcases i3 with i3 | i3
      · exact ⟨t', n, P, i2, by omega, .inl ⟨rfl, rfl⟩, i3⟩
      · exact ⟨t', n + 1, doneP l P, i2, hn, .inr ⟨rfl, rfl⟩, i3⟩
  · refine (commit_bad g b s n g (b + 1) A un c l w h hU hun hr).mono ?_
    rintro e w' ⟨rfl, hb⟩
    exact ⟨_, s, n, rfl, Fz.refl s, Tl.ofBelow hb, h.below hb, .inl ⟨hr, rfl, rfl, rfl⟩⟩
theorem arm_st {s : DS} {t n : Nat} {P : Nat → List UInt8} (h : St s t n P) (k : Int) : St (s.arm k) t n P := ⟨arm_up h.up k, h.hd, h.dat⟩
end Go.Proofs.Ytlpbdnncbinbmaa
