/- The document's model of layer 4 on the heap: rows of bytes; New. -/
import Derived.Test.YtlpbdnncbinbmaaWalI
import Derived.Test.YtlpbdnncbinbmaaStab
namespace Go.Proofs.Ytlpbdnncbinbmaa
open Go.ChangeShapes Go.WideShapes Go.ChangeAt Go.RowKit Go.Maps

/-- The cells cs are slices of the rows; their bytes lie in blocks of F. -/
def PC (w : World) (F : Nat → Prop) (cs : List Value) (rows : List (List UInt8)) : Prop :=
  cs.length = rows.length ∧ ∀ j (hj : j < rows.length), ∃ X m c, cs[j]? = some (.slice X m c) ∧ Bs w X m rows[j] ∧ (X = none → m = 0) ∧ m ≤ c ∧ c ≤ maxLen ∧ ∀ a, X = some a → 0 < m → F a.block
theorem PC.nil {w : World} {F : Nat → Prop} : PC w F [] [] := ⟨rfl, fun j hj => by simp at hj⟩
theorem PC.mono {w : World} {F F' : Nat → Prop} {cs : List Value} {l : List (List UInt8)} (h : PC w F cs l) (hF : ∀ b, b < w.heap.size → F b → F' b) : PC w F' cs l :=
  ⟨h.1, fun j hj => by
    obtain ⟨X, m, c, e2, hb, hX, hc, hm, ho⟩ := h.2 j hj
    exact ⟨X, m, c, e2, hb, hX, hc, hm, fun a ha h0 => hF _ (rd_block hb a ha h0) (ho a ha h0)⟩⟩
theorem PC.below {w w' : World} {F : Nat → Prop} {cs : List Value} {l : List (List UInt8)} (h : PC w F cs l) (hb : Below w.heap.size w w') : PC w' F cs l :=
  ⟨h.1, fun j hj => by
    obtain ⟨X, m, c, e2, hbs, r⟩ := h.2 j hj
    exact ⟨X, m, c, e2, hbs.below hb, r⟩⟩
theorem PC.tl {g b : Nat} {w w' : World} {F : Nat → Prop} {cs : List Value} {l : List (List UInt8)} (h : PC w F cs l) (ht : Tl g b w w') (hF : ∀ q, F q → (q < g ∨ g + 3 ≤ q) ∧ q ≠ b) : PC w' F cs l :=
  ⟨h.1, fun j hj => by
    obtain ⟨X, m, c, e2, hb, hX, hc, hm, ho⟩ := h.2 j hj
    exact ⟨X, m, c, e2, ht.bs hb (fun a ha h0 => hF _ (ho a ha h0)), hX, hc, hm, ho⟩⟩
theorem PC.grown {w w' : World} {F : Nat → Prop} {row : Option Nat} {cs : List Value} {l : List (List UInt8)} (h : PC w F cs l) (hg : w.grownBy w' row) (hF : ∀ b, F b → some b ≠ row) : PC w' F cs l :=
  ⟨h.1, fun j hj => by
    obtain ⟨X, m, c, e2, hb, hX, hc, hm, ho⟩ := h.2 j hj
    exact ⟨X, m, c, e2, bs_grown hb hg (fun a ha h0 => hF _ (ho a ha h0)), hX, hc, hm, ho⟩⟩
theorem PC.snoc {w : World} {F : Nat → Prop} {cs : List Value} {l : List (List UInt8)} (h : PC w F cs l) (x : List UInt8) {X : Option Addr} {m c : Nat} (hb : Bs w X m x) (hX : X = none → m = 0) (hc : m ≤ c) (hm : c ≤ maxLen) (ho : ∀ a, X = some a → 0 < m → F a.block) :
    PC w F (cs ++ [.slice X m c]) (l ++ [x]) := by
  refine ⟨by simp [h.1], fun j hj => ?_⟩
  have hl := h.1
  by_cases e : j < l.length
  · obtain ⟨X, m, c, e2, r⟩ := h.2 j e
    simp only [List.getElem_append_left e]
    exact ⟨X, m, c, by rw [List.getElem?_append_left (by omega)]; exact e2, r⟩
  · have hj' : j = l.length := by simp at hj; omega
    subst hj'
    exact ⟨X, m, c, by rw [List.getElem?_append_right (by omega), show l.length - cs.length = 0 by omega]; rfl, by simpa using hb, hX, hc, hm, ho⟩
/-- A slice of rows; all of it lies in blocks of F. -/
def Pls (w : World) (F : Nat → Prop) (A : Option Addr) (n : Nat) (rows : List (List UInt8)) : Prop :=
  n = rows.length ∧ ∃ cs, Rd w A 1 n cs ∧ PC w F cs rows ∧ ∀ a, A = some a → 0 < n → F a.block
theorem Pls.below {w w' : World} {F : Nat → Prop} {A : Option Addr} {n : Nat} {l : List (List UInt8)} (h : Pls w F A n l) (hb : Below w.heap.size w w') : Pls w' F A n l := by
  obtain ⟨e, cs, hr, hc, ho⟩ := h
  exact ⟨e, cs, hr.below hb, hc.below hb, ho⟩
theorem Pls.tl {g b : Nat} {w w' : World} {F : Nat → Prop} {A : Option Addr} {n : Nat} {l : List (List UInt8)} (h : Pls w F A n l) (ht : Tl g b w w') (hF : ∀ q, F q → (q < g ∨ g + 3 ≤ q) ∧ q ≠ b) : Pls w' F A n l := by
  obtain ⟨e, cs, hr, hc, ho⟩ := h
  exact ⟨e, cs, ht.rd hr (fun a ha h0 => hF _ (ho a ha h0)), hc.tl ht hF, ho⟩
theorem Pls.mono {w : World} {F F' : Nat → Prop} {A : Option Addr} {n : Nat} {l : List (List UInt8)} (h : Pls w F A n l) (hF : ∀ b, b < w.heap.size → F b → F' b) : Pls w F' A n l := by
  obtain ⟨e, cs, hr, hc, ho⟩ := h
  exact ⟨e, cs, hr, hc.mono hF, fun a ha h0 => hF _ (rd_block hr a ha h0) (ho a ha h0)⟩
theorem Pls.at_ {w : World} {F : Nat → Prop} {A : Option Addr} {n : Nat} {l : List (List UInt8)} (h : Pls w F A n l) {k : Nat} (hk : k < n) :
    ∃ b o X m c, A = some ⟨b, o, none⟩ ∧ ∃ hx : k < l.length, w.cell? ⟨b, o + k, none⟩ = some (.slice X m c) ∧ Bs w X m l[k] ∧ (X = none → m = 0) ∧ m ≤ c ∧ c ≤ maxLen ∧ (∀ a, X = some a → 0 < m → F a.block) ∧ F b := by
  obtain ⟨e, cs, hr, hc, ho⟩ := h
  have hx : k < l.length := by omega
  obtain ⟨X, m, c, e2, r⟩ := hc.2 k hx
  obtain ⟨b, o, rfl, hc1⟩ := hr.2 _ _ e2
  exact ⟨b, o, X, m, c, rfl, hx, hc1, r.1, r.2.1, r.2.2.1, r.2.2.2.1, r.2.2.2.2, ho _ rfl (by omega)⟩
/-- The rows of places. -/
def rowsOf (P : Nat → List UInt8) (n : Nat) : List (List UInt8) := (List.range n).map P
theorem rowsOf_length (P : Nat → List UInt8) (n : Nat) : (rowsOf P n).length = n := by simp [rowsOf]
theorem rowsOf_succ (P : Nat → List UInt8) (n : Nat) : rowsOf P (n + 1) = rowsOf P n ++ [P n] := by unfold rowsOf; rw [List.range_succ, List.map_append]; rfl
theorem info_bytes : (Try.prog.info? 36).map (fun i => (i.zero, i.size, i.bytes)) = some (some (.slice none 0 0), 1, 24) := by kernel_rfl
abbrev mdC (v : Value) (n : Nat) : Array Value := #[v, .int .i64 (n : Int)]
/-- A model that is being filled: itself in block qm, the result in qr. -/
structure Fill (w wr : World) (qr qm num : Nat) (v : Value) (j : Nat) (rows : List (List UInt8)) : Prop where
  self : Blk wr qm 30 (mdC v num)
  res : Blk wr qr 30 (mdC (.slice none 0 0) 0)
  own : ∃ cs, wr.ownsRow (qm + 1) 36 1 v j cs ∧ PC wr (fun b => qm < b ∧ some b ≠ v.ownBlock) cs rows
  lt : qr < qm
  base : w.heap.size ≤ qr
theorem Fill.below {w wr w' : World} {qr qm num : Nat} {v : Value} {j : Nat} {rows : List (List UInt8)} (h : Fill w wr qr qm num v j rows) (hb : Below wr.heap.size wr w') : Fill w w' qr qm num v j rows := by
  obtain ⟨cs, h1, h2⟩ := h.own
  exact ⟨h.self.keep hb, h.res.keep hb, ⟨cs, own_keep h1 hb, h2.below hb⟩, h.lt, h.base⟩
theorem Fill.tn {w wr w' : World} {qr qm num lo hi : Nat} {v : Value} {j : Nat} {rows : List (List UInt8)} (h : Fill w wr qr qm num v j rows) (ht : Tn lo hi wr w') (hl : hi ≤ w.heap.size) : Fill w w' qr qm num v j rows := by
  obtain ⟨cs, h1, h2⟩ := h.own
  have hlt := h.lt
  have hbs := h.base
  refine ⟨ht.blk h.self (.inr (by omega)), ht.blk h.res (.inr (by omega)), ⟨cs, ⟨h1.1, ?_⟩, ⟨h2.1, fun j hj => ?_⟩⟩, h.lt, h.base⟩
  · rcases h1.2 with e | ⟨g, cap, cur, e1, e2, e3, r⟩
    · exact .inl e
    · exact .inr ⟨g, cap, cur, e1, e2, (ht.block g (Array.getElem?_eq_some_iff.1 e3).1 (.inr (by omega))).trans e3, r⟩
  · obtain ⟨X, m, c, e2, hb, hX, hc, hm, ho⟩ := h2.2 j hj
    exact ⟨X, m, c, e2, ht.bs hb (fun a ha h0 => .inr (by have := (ho a ha h0).1; have := h.base; have := h.lt; omega)), hX, hc, hm, ho⟩
/-- A row more: it was made in wr, then appended, then the field was written. -/
theorem Fill.more {w wr w8 : World} {qr qm num : Nat} {v v8 : Value} {j : Nat} {rows : List (List UInt8)} (h : Fill w wr qr qm num v j rows) {x : List UInt8} {X : Option Addr} {m c : Nat} (hb : Bs wr X m x) (hX : X = none → m = 0) (hc : m ≤ c) (hm : c ≤ maxLen)
    (ho : ∀ a, X = some a → 0 < m → qm < a.block ∧ some a.block ≠ v.ownBlock)
    (hg : (wr.alloc (.cells #[.slice X m c] 36)).grownBy w8 v.ownBlock)
    {cs : List Value} (hown : wr.ownsRow (qm + 1) 36 1 v j cs) (hP : PC wr (fun b => qm < b ∧ some b ≠ v.ownBlock) cs rows)
    (hown8 : w8.ownsRow (qm + 1) 36 1 v8 (j + 1) (cs ++ [.slice X m c])) (hat : v8.ownBlock = v.ownBlock ∨ v8.ownBlock = some (wr.alloc (.cells #[.slice X m c] 36)).heap.size) :
    Fill w (w8.setCell ⟨qm, 0, none⟩ v8) qr qm num v8 (j + 1) (rows ++ [x]) := by
  have hrow : ∀ q, v.ownBlock = some q → qm + 1 ≤ q ∧ q < wr.heap.size := fun q hq => hown.lt q hq
  have hlt := h.lt
  have hk : Below wr.heap.size wr (wr.alloc (.cells #[.slice X m c] 36)) := (Below.refl _ _).alloc (Nat.le_refl _) _
  have hs := h.self.alloc (.cells #[.slice X m c] 36)
  have hsl := h.self.lt
  have hg2 := grown_setCell w8 ⟨qm, 0, none⟩ v8
  refine ⟨?_, ?_, ⟨cs ++ [.slice X m c], ?_, ?_⟩, hlt, h.base⟩
  · have := (hs.grown hg (by intro e; have := (hrow _ e.symm).1; omega)).setCell 0 v8
    simpa [mdC] using this
  · exact ((h.res.alloc _).grown hg (by intro e; have := (hrow _ e.symm).1; omega)).grown hg2 (by intro e; injection e with e; simp only at e; omega)
  · refine ⟨hown8.1, ?_⟩
    rcases hown8.2 with e | ⟨q, cap, cur, e1, e2, e3, r⟩
    · exact .inl e
    · exact .inr ⟨q, cap, cur, e1, e2, (hg2.block q (Array.getElem?_eq_some_iff.1 e3).1 (by intro e; injection e with e; simp only at e; omega)).trans e3, r⟩
  · have h1 := (hP.below hk).mono (F' := fun b => qm < b ∧ some b ≠ v.ownBlock ∧ some b ≠ v8.ownBlock) fun b hb hF => ⟨hF.1, hF.2, fun e => by
      rcases hat with h | h
      · exact hF.2 (e.trans h)
      · rw [h] at e; injection e with e; omega⟩
    have h2 := h1.grown hg fun b hF => hF.2.1
    have hb8 := bs_grown (hb.below hk) hg (fun a ha h0 e => (ho a ha h0).2 e)
    have h3 := h2.snoc x hb8 hX hc hm (fun a ha h0 => ⟨(ho a ha h0).1, (ho a ha h0).2, fun e => by
      rcases hat with h | h
      · exact (ho a ha h0).2 (e.trans h)
      · rw [h] at e
        injection e with e
        have := rd_block hb a ha h0
        simp only [World.size_alloc] at e
        omega⟩)
    exact (h3.grown hg2 fun b hF e => by have := hF.1; injection e with e; simp only at e; omega).mono fun b _ hF => ⟨hF.1, hF.2.2⟩
theorem Pls.grown {w w' : World} {F : Nat → Prop} {row : Option Nat} {A : Option Addr} {n : Nat} {l : List (List UInt8)} (h : Pls w F A n l) (hg : w.grownBy w' row) (hF : ∀ b, F b → some b ≠ row) : Pls w' F A n l := by
  obtain ⟨e, cs, hr, hc, ho⟩ := h
  refine ⟨e, cs, ⟨hr.1, fun j u hu => ?_⟩, hc.grown hg hF, ho⟩
  obtain ⟨b, o, rfl, hcell⟩ := hr.2 j u hu
  have hj : j < cs.length := (List.getElem?_eq_some_iff.1 hu).1
  have hne := hF b (ho _ rfl (by have := hr.1; omega))
  exact ⟨b, o, rfl, (World.cell?_of_block (hg.block b (cell_lt hcell) hne)).trans hcell⟩
theorem Fill.pls {w wr : World} {qr qm num : Nat} {A : Option Addr} {c j : Nat} {rows : List (List UInt8)} (h : Fill w wr qr qm num (.slice A j c) j rows) (hj : j = rows.length) : Pls wr (fun b => qm < b) A j rows := by
  obtain ⟨cs, h1, h2⟩ := h.own
  refine ⟨hj, cs, rd_own h1, h2.mono fun b _ hF => hF.1, fun a ha _ => ?_⟩
  have := (h1.lt a.block (by rw [ha]; rfl)).1
  omega
end Go.Proofs.Ytlpbdnncbinbmaa
