/- Layer 15: the document's bag as it lies in memory; has, Put. -/
import Derived.Test.YtallbhdfbkkjkaaNetL
set_option linter.all false
namespace Go.Proofs.Ytallbhdfbkkjkaa
open Go.RowKit
namespace Net
/-- The document's bag at block r: all its blocks but r itself are some of V. -/
structure RgX (w : World) (r : Nat) (V : Nat → Prop) (A : Option Addr) (n c : Nat) (L : List (Value × Gr)) : Prop where
  blk : Blk w r 45 #[.slice A n c]
  row : Rd w A 2 n (gvs L)
  nil : A = none → n = 0
  le : n ≤ c
  cap : c ≤ 9223372036854775807
  len : n = L.length
  rowV : ∀ a, A = some a → V a.block ∧ a.block < w.heap.size
  data : ∀ p ∈ L, ∃ X m d, p.1 = .slice X m d ∧ Bs w X m p.2.b ∧ m ≤ d ∧ d ≤ 9223372036854775807 ∧ m ≤ 140737488351300 ∧ (∀ a, X = some a → V a.block ∧ a.block < w.heap.size)
  few : n ≤ 256
def Rg (w : World) (r : Nat) (V : Nat → Prop) (l : List Gr) : Prop := ∃ A n c L, l = L.map (·.2) ∧ RgX w r V A n c L
theorem rd_fu {S : Nat → Prop} {w w' : World} {A : Option Addr} {sz n : Nat} {xs : List Value} (h : Rd w A sz n xs) (hf : Fu S w w') (hs : ∀ a, A = some a → ¬ S a.block) : Rd w' A sz n xs :=
  ⟨h.1, fun j u hu => by
    obtain ⟨b, o, e, hc⟩ := h.2 j u hu
    refine ⟨b, o, e, ?_⟩
    have hb := hf.block b (cell_lt hc) (hs _ e)
    unfold World.cell? at hc ⊢
    simp only at hc ⊢
    rw [hb]
    exact hc⟩
theorem RgX.fu {S : Nat → Prop} {w w' : World} {r : Nat} {V : Nat → Prop} {A : Option Addr} {n c : Nat} {L : List (Value × Gr)} (h : RgX w r V A n c L) (hf : Fu S w w') (hs : ∀ k, V k → ¬ S k) (hr : ¬ S r) : RgX w' r V A n c L :=
  ⟨blk_fu h.blk hf hr, rd_fu h.row hf (fun a e => hs _ (h.rowV a e).1), h.nil, h.le, h.cap, h.len, fun a e => ⟨(h.rowV a e).1, Nat.lt_of_lt_of_le (h.rowV a e).2 hf.size⟩, fun p hp => by
    obtain ⟨X, m, d, e, hb, h1, h2, h3, h4⟩ := h.data p hp
    exact ⟨X, m, d, e, rd_fu hb hf (fun a ea => hs _ (h4 a ea).1), h1, h2, h3, fun a ea => ⟨(h4 a ea).1, Nat.lt_of_lt_of_le (h4 a ea).2 hf.size⟩⟩, h.few⟩
theorem RgX.keep {w w' : World} {r : Nat} {V : Nat → Prop} {A : Option Addr} {n c : Nat} {L : List (Value × Gr)} (h : RgX w r V A n c L) (hb : Below w.heap.size w w') : RgX w' r V A n c L := h.fu (S := fun _ => False) (Fu.ofBelow hb) (fun _ _ e => e) (fun e => e)
theorem Rg.fu {S : Nat → Prop} {w w' : World} {r : Nat} {V : Nat → Prop} {l : List Gr} (h : Rg w r V l) (hf : Fu S w w') (hs : ∀ k, V k → ¬ S k) (hr : ¬ S r) : Rg w' r V l := by
  obtain ⟨A, n, c, L, e, hx⟩ := h; exact ⟨A, n, c, L, e, hx.fu hf hs hr⟩
theorem Rg.keep {w w' : World} {r : Nat} {V : Nat → Prop} {l : List Gr} (h : Rg w r V l) (hb : Below w.heap.size w w') : Rg w' r V l := by
  obtain ⟨A, n, c, L, e, hx⟩ := h; exact ⟨A, n, c, L, e, hx.keep hb⟩
theorem RgX.sub {w : World} {r : Nat} {V V' : Nat → Prop} {A : Option Addr} {n c : Nat} {L : List (Value × Gr)} (h : RgX w r V A n c L) (hv : ∀ k, V k → k < w.heap.size → V' k) : RgX w r V' A n c L :=
  ⟨h.blk, h.row, h.nil, h.le, h.cap, h.len, fun a e => ⟨hv _ (h.rowV a e).1 (h.rowV a e).2, (h.rowV a e).2⟩, fun p hp => by
    obtain ⟨X, m, d, e, hb, h1, h2, h3, h4⟩ := h.data p hp
    exact ⟨X, m, d, e, hb, h1, h2, h3, fun a ea => ⟨hv _ (h4 a ea).1 (h4 a ea).2, (h4 a ea).2⟩⟩, h.few⟩
theorem Rg.sub {w : World} {r : Nat} {V V' : Nat → Prop} {l : List Gr} (h : Rg w r V l) (hv : ∀ k, V k → k < w.heap.size → V' k) : Rg w r V' l := by
  obtain ⟨A, n, c, L, e, hx⟩ := h; exact ⟨A, n, c, L, e, hx.sub hv⟩
theorem Rg.lt {w : World} {r : Nat} {V : Nat → Prop} {l : List Gr} (h : Rg w r V l) : r < w.heap.size := by obtain ⟨A, n, c, L, e, hx⟩ := h; exact hx.blk.lt
theorem Rg.drewN {w : World} {r : Nat} {V : Nat → Prop} {l : List Gr} (h : Rg w r V l) (k : Nat) : Rg (w.drewN k) r V l := by
  obtain ⟨A, n, c, L, e, hx⟩ := h
  exact ⟨A, n, c, L, e, ⟨hx.blk, hx.row, hx.nil, hx.le, hx.cap, hx.len, hx.rowV, hx.data, hx.few⟩⟩
/-- A new list, in new memory, stored. -/
theorem RgX.put {w w2 : World} {r B n' : Nat} {V V' : Nat → Prop} {A : Option Addr} {n c : Nat} {L L' : List (Value × Gr)} {v : Value} (h : RgX w r V A n c L) (hg : w.grownBy w2 none) (hv : w2.ownsRow B 91 2 v n' (gvs L')) (hB : w.heap.size ≤ B)
    (hn : n' = L'.length) (hf : n' ≤ 256) (hV : ∀ k, V k → V' k) (hV2 : ∀ k, w.heap.size ≤ k → V' k)
    (hd : ∀ p ∈ L', p ∈ L ∨ ∃ X m d, p.1 = .slice X m d ∧ Bs w2 X m p.2.b ∧ m ≤ d ∧ d ≤ 9223372036854775807 ∧ m ≤ 140737488351300 ∧ (∀ a, X = some a → V' a.block ∧ a.block ≠ r ∧ a.block < w2.heap.size)) (hr : ¬ V r) :
    Rg (w2.setCell ⟨r, 0, none⟩ v) r V' (L'.map (·.2)) ∧ Fu (fun k => k = r) w (w2.setCell ⟨r, 0, none⟩ v) := by
  obtain ⟨A', c', rfl, h1, h2, h3⟩ := own_form hv
  unfold maxLen at h2
  have hset := grown_setCell w2 ⟨r, 0, none⟩ (.slice A' n' c')
  have hrl := h.blk.lt
  have hsz := hg.size
  have hAr : ∀ a, A' = some a → a.block ≠ r ∧ w.heap.size ≤ a.block ∧ a.block < w2.heap.size := fun a e => by
    have := hv.lt a.block (by rw [e]; rfl)
    omega
  refine ⟨⟨A', n', c', L', rfl, ?_⟩, (Fu.ofGrown hg (fun k e => by cases e)).step hset (fun k e => by injection e with e; exact .inl e.symm)⟩
  refine ⟨?_, ?_, fun e => (h3 e).1, h1, by omega, hn, fun a e => ?_, fun p hp => ?_, hf⟩
  · have := (h.blk.grown hg (fun e => by cases e)).setCell 0 (.slice A' n' c')
    simpa using this
  · exact (rd_own hv).grown hset (fun a e q => (hAr a e).1 (by injection q))
  · have := hAr a e
    exact ⟨hV2 _ (by omega), by simpa [World.setCell] using this.2.2⟩
  · rcases hd p hp with hp | ⟨X, m, d, e, hb, k1, k2, k3, k4⟩
    · obtain ⟨X, m, d, e, hb, k1, k2, k3, k4⟩ := h.data p hp
      have hlt : ∀ a, X = some a → a.block < w2.heap.size := fun a ea => by have := (k4 a ea).2; omega
      exact ⟨X, m, d, e, (hb.grown hg (fun a ea q => by cases q)).grown hset (fun a ea q => by injection q with q; exact hr ((show a.block = r from q) ▸ (k4 a ea).1)), k1, k2, k3, fun a ea => ⟨hV _ (k4 a ea).1, by simpa [World.setCell] using hlt a ea⟩⟩
    · exact ⟨X, m, d, e, hb.grown hset (fun a ea q => by injection q with q; exact (k4 a ea).2.1 q), k1, k2, k3, fun a ea => ⟨(k4 a ea).1, by simpa [World.setCell] using (k4 a ea).2.2⟩⟩
section
variable (w : World)
set_option maxRecDepth 100000 in
set_option maxHeartbeats 1000000 in
theorem rhas_ (r : Nat) (V : Nat → Prop) (A : Option Addr) (n c : Nat) (L : List (Value × Gr)) (h : RgX w r V A n c L) (i : Int) : Calls Try.prog 50 #[.pointer (some ⟨r, 0, none⟩), .int .i64 i] w fun e w' => e = .returned (.bool (hasB (L.map (·.2)) i)) ∧ w = w' := by
  have c0 := h.blk.cell (j := 0) (u := .slice A n c) rfl
  have HT := Lib.hid (show hasB (L.map (·.2)) i = (decide (0 ≤ i) && decide (i < (n : Int))) by unfold hasB; rw [List.length_map, h.len])
  clear h
  by_cases h0 : 0 ≤ i
  · by_cases h1 : i < (n : Int)
    · have HE := Lib.hid (show hasB (L.map (·.2)) i = true by rw [HT.out]; simp [h0, h1])
      go_enter Try.func50, Try.ntmps50
      go_wp2
      go_ret
      rw [HE.out]
      exact ⟨rfl, rfl⟩
    · have HE := Lib.hid (show hasB (L.map (·.2)) i = false by rw [HT.out]; simp [h1])
      go_enter Try.func50, Try.ntmps50
      go_wp2
      go_ret
      rw [HE.out]
      exact ⟨rfl, rfl⟩
  · have HE := Lib.hid (show hasB (L.map (·.2)) i = false by rw [HT.out]; simp [h0])
    go_enter Try.func50, Try.ntmps50
    go_wp2
    go_ret
    rw [HE.out]
    exact ⟨rfl, rfl⟩
theorem info_rgram : (Try.prog.info? 91).map (fun i => (i.zero, i.size, i.bytes)) = some (some (.agg #[.slice none 0 0, .bool false]), 2, 32) := by kernel_rfl
theorem rgram_info : ∃ i, Try.prog.info? 91 = some i ∧ i.zero = some (.agg #[.slice none 0 0, .bool false]) ∧ i.size = 2 ∧ i.bytes = 32 := by
  obtain ⟨i, hi, he⟩ := Option.map_eq_some_iff.1 info_rgram
  simp only [Prod.mk.injEq] at he
  exact ⟨i, hi, he.1, he.2.1, he.2.2⟩
theorem RgX.forms {w : World} {r : Nat} {V : Nat → Prop} {A : Option Addr} {n c : Nat} {L : List (Value × Gr)} (h : RgX w r V A n c L) : ∀ p ∈ L, ∃ X m c, p.1 = .slice X m c := fun p hp => by
  obtain ⟨X, m, d, e, _⟩ := h.data p hp
  exact ⟨X, m, d, e⟩
end
end Net
end Go.Proofs.Ytallbhdfbkkjkaa
