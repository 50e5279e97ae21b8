/- Layer 16: loads, queues of loads and ends, as they lie in memory; cut, with, rest of a queue. -/
import Derived.Test.YtlmaelbalmjlbaaSesM
import Derived.Test.YtlmaelbalmjlbaaSesQ
import Derived.Test.YtlmaelbalmjlbaaNetC
import Derived.ArgAppend
set_option linter.all false
namespace Go.Proofs.Ytlmaelbalmjlbaa
open Go.RowKit
namespace Ses
open Net

/-- The value v is a load d, which lies in blocks of U. -/
def Dt (w : World) (U : Nat → Prop) (v : Value) (d : List UInt8) : Prop :=
  ∃ X m c, v = .slice X m c ∧ Bs w X m d ∧ m ≤ c ∧ c ≤ 9223372036854775807 ∧ m ≤ 1200 ∧ (X = none → m = 0 ∧ c = 0) ∧ (∀ a, X = some a → U a.block ∧ a.block < w.heap.size)
abbrev Ld : Type := Value × List UInt8
abbrev lvs (L : List Ld) : List Value := L.map (·.1)
theorem bs_fu {S : Nat → Prop} {w w' : World} {A : Option Addr} {sz n : Nat} {xs : List Value} (h : Rd w A sz n xs) (hf : Fu S w w') (hs : ∀ a, A = some a → ¬ S a.block) : Rd w' A sz n xs :=
  ⟨h.1, fun j u hu => by
    obtain ⟨b, o, e, hc⟩ := h.2 j u hu
    refine ⟨b, o, e, ?_⟩
    have hb := hf.block b (cell_lt hc) (hs _ e)
    unfold World.cell? at hc ⊢
    simp only at hc ⊢
    rw [hb]
    exact hc⟩
theorem Dt.fu {S : Nat → Prop} {w w' : World} {U : Nat → Prop} {v : Value} {d : List UInt8} (h : Dt w U v d) (hf : Fu S w w') (hs : ∀ k, U k → ¬ S k) : Dt w' U v d := by
  obtain ⟨X, m, c, e, hb, h1, h2, h3, h4, h5⟩ := h
  exact ⟨X, m, c, e, bs_fu hb hf (fun a ea => hs _ (h5 a ea).1), h1, h2, h3, h4, fun a ea => ⟨(h5 a ea).1, Nat.lt_of_lt_of_le (h5 a ea).2 hf.size⟩⟩
theorem Dt.sub {w : World} {U U' : Nat → Prop} {v : Value} {d : List UInt8} (h : Dt w U v d) (hu : ∀ k, U k → k < w.heap.size → U' k) : Dt w U' v d := by
  obtain ⟨X, m, c, e, hb, h1, h2, h3, h4, h5⟩ := h
  exact ⟨X, m, c, e, hb, h1, h2, h3, h4, fun a ea => ⟨hu _ (h5 a ea).1 (h5 a ea).2, (h5 a ea).2⟩⟩
theorem Dt.keep {w w' : World} {U : Nat → Prop} {v : Value} {d : List UInt8} (h : Dt w U v d) (hb : Below w.heap.size w w') : Dt w' U v d := h.fu (S := fun _ => False) (Fu.ofBelow hb) (fun _ _ e => e)
theorem Dt.one {w : World} {U : Nat → Prop} {v : Value} {d : List UInt8} (h : Dt w U v d) : v.oneCell' = true := by
  obtain ⟨X, m, c, rfl, _⟩ := h; rfl
theorem Dt.own {w : World} {B : Nat} {U : Nat → Prop} {v : Value} {d : List UInt8} {n : Nat} (h : w.ownsRow B 5 1 v n (bvs d)) (hl : d.length ≤ 1200) (hU : ∀ k, B ≤ k → U k) : Dt w U v d := by
  obtain ⟨A, c, rfl, h1, h2, h3⟩ := own_form h
  unfold maxLen at h2
  have hn := (bs_own h).len
  refine ⟨A, n, c, rfl, bs_own h, h1, by omega, by omega, h3, fun a e => ?_⟩
  have := h.lt a.block (by rw [e]; rfl)
  exact ⟨hU _ this.1, this.2⟩
/-- The slice '.slice A n _' is a row of loads, all of whose blocks are some of U. -/
structure Lq (w : World) (U : Nat → Prop) (A : Option Addr) (n : Nat) (L : List Ld) : Prop where
  row : Rd w A 1 n (lvs L)
  data : ∀ p ∈ L, Dt w U p.1 p.2
  rowU : ∀ a, A = some a → U a.block ∧ a.block < w.heap.size
  nil : A = none → n = 0
section
variable {w w' : World} {U U' S : Nat → Prop} {A : Option Addr} {n : Nat} {L : List Ld}
theorem Lq.len (h : Lq w U A n L) : n = L.length := by have := h.row.1; simp at this; omega
theorem Lq.fu (h : Lq w U A n L) (hf : Fu S w w') (hs : ∀ k, U k → ¬ S k) : Lq w' U A n L :=
  ⟨bs_fu h.row hf (fun a e => hs _ (h.rowU a e).1), fun p hp => (h.data p hp).fu hf hs, fun a e => ⟨(h.rowU a e).1, Nat.lt_of_lt_of_le (h.rowU a e).2 hf.size⟩, h.nil⟩
theorem Lq.keep (h : Lq w U A n L) (hb : Below w.heap.size w w') : Lq w' U A n L := h.fu (S := fun _ => False) (Fu.ofBelow hb) (fun _ _ e => e)
theorem Lq.sub (h : Lq w U A n L) (hu : ∀ k, U k → k < w.heap.size → U' k) : Lq w U' A n L :=
  ⟨h.row, fun p hp => (h.data p hp).sub hu, fun a e => ⟨hu _ (h.rowU a e).1 (h.rowU a e).2, (h.rowU a e).2⟩, h.nil⟩
theorem lq_none {w : World} {U : Nat → Prop} : Lq w U none 0 [] := ⟨Rd.nil, by simp, fun a e => (by cases e), fun _ => rfl⟩
theorem Lq.get (h : Lq w U A n L) {k : Nat} (hk : k < n) : ∃ b o X m c d, A = some ⟨b, o, none⟩ ∧ (L.map (·.2))[k]? = some d ∧ w.cell? ⟨b, o + k, none⟩ = some (.slice X m c) ∧ Bs w X m d ∧ m ≤ c ∧ c ≤ 9223372036854775807 ∧ m ≤ 1200 ∧ (X = none → m = 0 ∧ c = 0) ∧ (∀ a, X = some a → U a.block ∧ a.block < w.heap.size) := by
  obtain ⟨b, o, e, hx, hc⟩ := Rd.at_ h.row hk
  have hl : k < L.length := by simpa using hx
  obtain ⟨X, m, c, ev, h1⟩ := h.data _ (List.getElem_mem hl)
  have hv : (lvs L)[k] = .slice X m c := by rw [← ev]; simp
  rw [hv] at hc
  exact ⟨b, o, X, m, c, _, e, by rw [List.getElem?_map, List.getElem?_eq_getElem hl]; rfl, hc, h1⟩
theorem Lq.ones (h : Lq w U A n L) : ∀ u ∈ lvs L, u.oneCell' = true := by
  intro u hu
  obtain ⟨p, hp, rfl⟩ := List.mem_map.1 hu
  exact (h.data p hp).one
/-- A row of the call's own, of loads. -/
theorem Lq.own {B : Nat} {c : Nat} (hv : w.ownsRow B 34 1 (.slice A n c) n (lvs L)) (hd : ∀ p ∈ L, Dt w U p.1 p.2) (hU : ∀ k, B ≤ k → U k) : Lq w U A n L := by
  obtain ⟨A', c', e, h1, h2, h3⟩ := own_form hv
  injection e with e1 e2 e3
  subst e1 e3
  exact ⟨rd_own hv, hd, fun a e => by
    have := hv.lt a.block (by rw [e]; rfl)
    exact ⟨hU _ this.1, this.2⟩, fun e => (h3 e).1⟩
end
theorem info_bytes : (Try.prog.info? 34).map (fun i => (i.zero, i.size, i.bytes)) = some (some (.slice none 0 0), 1, 24) := by kernel_rfl
theorem bytes_info : ∃ i, Try.prog.info? 34 = some i ∧ i.zero = some (.slice none 0 0) ∧ i.size = 1 ∧ i.bytes = 24 := by
  obtain ⟨i, hi, he⟩ := Option.map_eq_some_iff.1 info_bytes
  simp only [Prod.mk.injEq] at he
  exact ⟨i, hi, he.1, he.2.1, he.2.2⟩
section
variable (w : World)
set_option maxRecDepth 100000 in
set_option maxHeartbeats 1000000 in
theorem cut_ (A : Option Addr) (n c : Nat) (hnc : n ≤ c) (hc : c ≤ 9223372036854775807) : Calls Try.prog 45 #[.slice A n c] w fun e w' => e = .returned (.slice A n n) ∧ w = w' := by
  have h1 : (n : Int) ≤ (c : Int) := by omega
  have h2 : (0 : Int) ≤ (n : Int) := by omega
  go_enter Try.func45, Try.ntmps45
  go_wp2
  go_ret
  exact ⟨rfl, rfl⟩
set_option maxRecDepth 100000 in
set_option maxHeartbeats 1000000 in
theorem with_ (U : Nat → Prop) (A : Option Addr) (n : Nat) (L : List Ld) (h : Lq w U A n L) (x : Value) (d : List UInt8) (hx : Dt w U x d) (hn : n ≤ 8) :
    Calls Try.prog 32 #[.slice A n n, x] w fun e w' => ∃ A', e = .returned (.slice A' (n + 1) (n + 1)) ∧ Lq w' (fun k => U k ∨ w.heap.size ≤ k) A' (n + 1) (L ++ [(x, d)]) ∧ Below w.heap.size w w' := by
  obtain ⟨i0, hi0, hz0, hz1, hz2⟩ := bytes_info
  have Hz := Lib.hid hz2
  have H := Lib.hid h
  have HX := Lib.hid hx
  have hrow := h.row
  have hnil := h.nil
  have hone := hx.one
  obtain ⟨X, m, c, rfl, _⟩ := hx
  clear hz2 h
  have hrA : ∀ a, A = some a → ∀ j u, (lvs L)[j]? = some u → (w.alloc (.cells #[.slice X m c] 34)).cell? (a.add j) = some u := fun a ea j u hu => by
    obtain ⟨b, o, e, hc⟩ := (hrow.alloc (.cells #[.slice X m c] 34)).2 j u hu
    rw [ea] at e
    injection e with e
    subst e
    rw [add_plain]
    exact hc
  have hrN : Rd (w.alloc (.cells #[.slice X m c] 34)) (some ⟨w.heap.size, 0, none⟩) 1 1 [.slice X m c] := Rd.new w _ _ (0, 0) (sz := 1) (n := 1) rfl
  have hcN : ∀ j u, [Value.slice X m c][j]? = some u → (w.alloc (.cells #[.slice X m c] 34)).cell? ((⟨w.heap.size, 0, none⟩ : Addr).add j) = some u := fun j u hu => by
    obtain ⟨b, o, e, hc⟩ := hrN.2 j u hu
    injection e with e
    injection e with e1 e2
    subst e1 e2
    rw [add_plain]
    exact hc
  have hlr := hrow.1
  go_enter Try.func32, Try.ntmps32
  go_wp2_with (first
    | (at_builtin
       refine wpList_append_grows _ rfl (.tmp 5) (.tmp 7) _ rfl 34 i0 _ 1 24 Try.underlying73 hi0 hz0 hz1 Hz.out rfl (by omega) A n n (lvs L) rfl (fun e => ⟨hnil e, hnil e⟩) hlr hrA ⟨w.heap.size, 0, none⟩ 1 1 [.slice X m c] rfl rfl hcN (by simpa using hone) (by omega) (by unfold maxLen; omega) (by omega) ?_
       intro v2 w2 hown2 hg2)
    | fail)
  all_goals (
    obtain ⟨A2, c2, rfl, hc2, hm2, ha2⟩ := own_form hown2
    unfold maxLen at hm2
    refine (cut_ w2 A2 (n + 1) c2 hc2 (by omega)).mono ?_
    rintro e w3 ⟨rfl, rfl⟩
    have hb2 : Below w.heap.size w w2 := ((Below.refl _ _).alloc (Nat.le_refl _) _).trans (grown_below hg2 (by simp) (by simp))
    have hq : Lq w2 (fun k => U k ∨ w.heap.size ≤ k) A2 (n + 1) (L ++ [(.slice X m c, d)]) := by
      refine Lq.own (B := w.heap.size) (c := c2) (by rw [lvs, List.map_append]; exact hown2.mono (by simp)) (fun p hp => ?_) (fun k hk => .inr hk)
      rcases List.mem_append.1 hp with hp | hp
      · exact ((H.out.data p hp).keep hb2).sub (fun k hk _ => .inl hk)
      · rw [List.mem_singleton.1 hp]
        exact (HX.out.keep hb2).sub (fun k hk _ => .inl hk)
    clear hown2 hg2 hrA hrN
    go_wp2
    go_ret
    exact ⟨A2, rfl, hq, hb2⟩)
set_option maxRecDepth 100000 in
set_option maxHeartbeats 1000000 in
theorem rest_ (U : Nat → Prop) (A : Option Addr) (n : Nat) (L : List Ld) (h : Lq w U A n L) (hn : n ≤ 8) (k : Nat) (hk : k ≤ n) :
    Calls Try.prog 37 #[.slice A n n, .int .i64 (k : Int)] w fun e w' => ∃ A', e = .returned (.slice A' (n - k) (n - k)) ∧ Lq w' (fun k => U k ∨ w.heap.size ≤ k) A' (n - k) (L.drop k) ∧ Below w.heap.size w w' := by
  obtain ⟨i0, hi0, hz0, hz1, hz2⟩ := bytes_info
  have Hz := Lib.hid hz2
  have H := Lib.hid h
  have hrow := h.row
  have hnil := h.nil
  have hone := h.ones
  clear hz2 h
  have hdr := Rd.drop hrow hk (Nat.le_refl n)
  rw [Nat.mul_one, ← List.map_drop] at hdr
  have ho1 : ∀ u ∈ lvs (L.drop k), u.oneCell' = true := fun u hu => hone u (by
    rw [lvs, List.map_drop] at hu
    exact List.mem_of_mem_drop hu)
  have h0 : (0 : Int) ≤ (k : Int) := by omega
  have h1 : (k : Int) ≤ (n : Int) := by omega
  have hd0 : (if n = k then A else A.map (·.add k)) = none → n - k = 0 := fun e => by
    by_cases ek : n = k
    · omega
    · rw [if_neg ek] at e
      have := hnil (by simpa using e)
      omega
  obtain ⟨A1, hA1⟩ : ∃ A1, (if n = k then A else A.map (·.add k)) = A1 := ⟨_, rfl⟩
  rw [hA1] at hdr hd0
  go_enter Try.func37, Try.ntmps37
  have hnk : n - k ≤ 8 := by omega
  obtain ⟨q, hq⟩ : ∃ q, n - k = q := ⟨_, rfl⟩
  rw [hq] at hdr hd0 hnk ⊢
  have Hq := Lib.hid hq
  clear hq
  go_wp2_with (first
    | (at_builtin
       refine wpList_app _ rfl (.const (.slice none 0 0)) (.tmp 7) _ rfl w.heap.size 34 i0 _ 1 24 Try.underlying73 hi0 hz0 hz1 Hz.out rfl (by omega) (.slice none 0 0) 0 [] rfl (own_nil _ _ _ _) A1 q q (lvs (L.drop k)) (by simp [Act.eval, Hq.out]) hd0 hdr ho1 (by unfold maxLen; omega) (by omega) (Nat.le_refl _) ?_
       intro v2 w2 hown2 hg2 hat2)
    | fail)
  obtain ⟨A2, c2, rfl, hc2, hm2, ha2⟩ := own_form hown2
  unfold maxLen at hm2
  rw [Nat.zero_add] at hown2 hc2 ha2 ⊢
  rw [List.nil_append] at hown2
  refine (cut_ w2 A2 q c2 hc2 (by omega)).mono ?_
  rintro e w3 ⟨rfl, rfl⟩
  have hb2 : Below w.heap.size w w2 := grown_below hg2 (Nat.le_refl _) (fun k e => by cases e)
  have hqq : Lq w2 (fun k => U k ∨ w.heap.size ≤ k) A2 q (L.drop k) :=
    Lq.own (B := w.heap.size) (c := c2) hown2 (fun p hp => ((H.out.data p (List.mem_of_mem_drop hp)).keep hb2).sub (fun k hk _ => .inl hk)) (fun k hk => .inr hk)
  clear hown2 hg2 hat2
  go_wp2
  go_ret
  exact ⟨A2, rfl, hqq, hb2⟩
end
end Ses
end Go.Proofs.Ytlmaelbalmjlbaa
