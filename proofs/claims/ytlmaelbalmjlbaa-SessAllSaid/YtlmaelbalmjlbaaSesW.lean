/- Layer 16: two ends and what lies between them, as they lie in memory. -/
import Derived.Test.YtlmaelbalmjlbaaSesAr
import Derived.Test.YtlmaelbalmjlbaaSesN
import Derived.Test.YtlmaelbalmjlbaaSesRa
set_option linter.all false
namespace Go.Proofs.Ytlmaelbalmjlbaa
open Go.RowKit
namespace Ses
open Net

def so (s : Bool) : Nat := if s then 1 else 0
abbrev wa (e : Bool → Nat) (bv sv : Bool → Value) (W : Wd) : Array Value :=
  #[.pointer (some ⟨e false, 0, none⟩), .pointer (some ⟨e true, 0, none⟩), bv false, bv true, sv false, sv true, .int .i64 (W.c false : Int), .int .i64 (W.c true : Int), .bool W.bad]
/-- Blocks that are read alone. -/
def Nm (w : World) (wb : Nat) (e : Bool → Nat) (sv : Bool → Value) (k : Nat) : Prop := k ≠ wb ∧ (∀ s, k ≠ e s) ∧ (∀ s, (sv s).ownBlock ≠ some k) ∧ k < w.heap.size
/-- A bag's row and data, wherever the bag itself lies. -/
structure RgV (w : World) (V : Nat → Prop) (A : Option Addr) (n c : Nat) (L : List (Value × Gr)) : Prop where
  row : Rd w A 2 n (gvs L)
  nil : A = none → n = 0
  le : n ≤ c
  cap : c ≤ 9223372036854775807
  len : n = L.length
  rowV : ∀ a, A = some a → V a.block ∧ a.block < w.heap.size
  data : ∀ p ∈ L, ∃ X m d, p.1 = .slice X m d ∧ Bs w X m p.2.b ∧ m ≤ d ∧ d ≤ 9223372036854775807 ∧ m ≤ 140737488351300 ∧ Vd w V X d
  few : n ≤ 256
section
variable {w w' : World} {r oo : Nat} {TT : TypeId} {ctx : Value → Array Value} {V V' S : Nat → Prop} {A : Option Addr} {n c : Nat} {L : List (Value × Gr)}
theorem RgX.v (h : RgX w r TT oo ctx V A n c L) : RgV w V A n c L := ⟨h.row, h.nil, h.le, h.cap, h.len, h.rowV, h.data, h.few⟩
theorem RgV.x (h : RgV w V A n c L) (hb : Blk w r TT (ctx (.slice A n c))) : RgX w r TT oo ctx V A n c L := ⟨hb, h.row, h.nil, h.le, h.cap, h.len, h.rowV, h.data, h.few⟩
theorem RgV.fu (h : RgV w V A n c L) (hf : Fu S w w') (hs : ∀ k, V k → ¬ S k) : RgV w' V A n c L :=
  ⟨bs_fu h.row hf (fun a e => hs _ (h.rowV a e).1), h.nil, h.le, h.cap, h.len, fun a e => ⟨(h.rowV a e).1, Nat.lt_of_lt_of_le (h.rowV a e).2 hf.size⟩, fun p hp => by
    obtain ⟨X, m, d, e, hb, h1, h2, h3, h4⟩ := h.data p hp
    exact ⟨X, m, d, e, bs_fu hb hf (fun a ea => hs _ (h4 a ea).1), h1, h2, h3, ⟨fun a ea => ⟨(h4 a ea).1, Nat.lt_of_lt_of_le (h4 a ea).2 hf.size⟩, h4.z⟩⟩, h.few⟩
theorem RgV.sub (h : RgV w V A n c L) (hu : ∀ k, V k → k < w.heap.size → V' k) : RgV w V' A n c L :=
  ⟨h.row, h.nil, h.le, h.cap, h.len, fun a e => ⟨hu _ (h.rowV a e).1 (h.rowV a e).2, (h.rowV a e).2⟩, fun p hp => by
    obtain ⟨X, m, d, e, hb, h1, h2, h3, h4⟩ := h.data p hp
    exact ⟨X, m, d, e, hb, h1, h2, h3, ⟨fun a ea => ⟨hu _ (h4 a ea).1 (h4 a ea).2, (h4 a ea).2⟩, h4.z⟩⟩, h.few⟩
end
structure WmX (w : World) (B wb : Nat) (e : Bool → Nat) (bv sv : Bool → Value) (W : Wd) : Prop where
  blk : Blk w wb 68 (wa e bv sv W)
  ends : ∀ s, Ed w (e s) (Nm w wb e sv) (W.e s)
  bags : ∀ s, ∃ A n c L, bv s = .slice A n c ∧ RgV w (Nm w wb e sv) A n c L ∧ W.b s = L.map (·.2)
  sent : ∀ s, ∃ L : List Ld, w.ownsRow B 34 1 (sv s) L.length (lvs L) ∧ (∀ p ∈ L, Dt w (Nm w wb e sv) p.1 p.2) ∧ L.map (·.2) = W.s s
  low : B ≤ wb ∧ ∀ s, B ≤ e s
  new : ∀ s, e s ≠ wb
  two : e false ≠ e true
  apart : ∀ s g, (sv s).ownBlock = some g → (sv (!s)).ownBlock ≠ some g
section
variable {w w' : World} {B wb : Nat} {e : Bool → Nat} {bv sv : Bool → Value} {W : Wd}
theorem WmX.ne2 (h : WmX w B wb e bv sv W) (s : Bool) : e (!s) ≠ e s := by
  have := h.two
  cases s
  · exact fun q => this q.symm
  · exact this
theorem blk_ne2 {w : World} {b : Nat} {t : TypeId} {cs : Array Value} (h : Blk w b t cs) {B : Nat} {T : TypeId} {sz n : Nat} {v : Value} {xs : List Value} (hv : w.ownsRow B T sz v n xs) (ht : T ≠ t) : v.ownBlock ≠ some b := by
  intro e
  rcases hv.2 with ⟨rfl, _⟩ | ⟨g, cap, cur, rfl, _, hh, _⟩
  · cases e
  · injection e with e
    simp only at e
    subst e
    have h' : w.heap[g]? = _ := h
    rw [hh] at h'
    injection h' with h'
    injection h' with _ h' _
    exact ht h'
/-- The sent rows are neither the world's block nor an end's. -/
theorem WmX.svW (h : WmX w B wb e bv sv W) (s : Bool) : (sv s).ownBlock ≠ some wb := by
  obtain ⟨L, hv, _⟩ := h.sent s
  exact blk_ne2 h.blk hv (by decide)
theorem WmX.svE (h : WmX w B wb e bv sv W) (s t : Bool) : (sv s).ownBlock ≠ some (e t) := by
  obtain ⟨L, hv, _⟩ := h.sent s
  obtain ⟨A, n, K, hX⟩ := h.ends t
  exact blk_ne2 hX.blk hv (by decide)
theorem WmX.svLt (h : WmX w B wb e bv sv W) (s : Bool) {g : Nat} (hg : (sv s).ownBlock = some g) : B ≤ g ∧ g < w.heap.size := by
  obtain ⟨L, hv, _⟩ := h.sent s
  exact hv.lt g hg
theorem WmX.lt (h : WmX w B wb e bv sv W) : wb < w.heap.size ∧ ∀ s, e s < w.heap.size := ⟨h.blk.lt, fun s => (h.ends s).lt⟩
theorem WmX.nm (h : WmX w B wb e bv sv W) (hs : w.heap.size ≤ w'.heap.size) {k : Nat} (hk : Nm w wb e sv k ∨ w.heap.size ≤ k) (hl : k < w'.heap.size) : Nm w' wb e sv k := by
  rcases hk with hk | hk
  · exact ⟨hk.1, hk.2.1, hk.2.2.1, hl⟩
  · refine ⟨by have := h.lt.1; omega, fun s => by have := h.lt.2 s; omega, fun s q => by have := (h.svLt s q).2; omega, hl⟩
theorem nm_wb {k : Nat} (h : Nm w wb e sv k) : k ≠ wb := h.1
theorem nm_e {s : Bool} : ¬ Nm w wb e sv (e s) := fun h => h.2.1 s rfl
/-- What is only read, and what is new, stays. -/
theorem WmX.keep (h : WmX w B wb e bv sv W) (hb : Below w.heap.size w w') : WmX w' B wb e bv sv W := by
  have hm : ∀ k, Nm w wb e sv k → k < w'.heap.size → Nm w' wb e sv k := fun k hk hl => h.nm hb.size (.inl hk) hl
  refine ⟨h.blk.keep hb, fun s => ((h.ends s).keep hb).sub hm (fun q => q.2.1 s rfl), fun s => ?_, fun s => ?_, h.low, h.new, h.two, h.apart⟩
  · obtain ⟨A, n, c, L, e1, h1, h2⟩ := h.bags s
    exact ⟨A, n, c, L, e1, (h1.fu (S := fun _ => False) (Fu.ofBelow hb) (fun _ _ q => q)).sub hm, h2⟩
  · obtain ⟨L, h1, h2, h3⟩ := h.sent s
    exact ⟨L, own_keep h1 hb, fun p hp => ((h2 p hp).keep hb).sub hm, h3⟩
/-- The world's block alone is written: the bag of one side, how many came, whether anything went wrong. -/
theorem WmX.blkTo (h : WmX w B wb e bv sv W) (hf : Fu (fun k => k = wb) w w') {bv' : Bool → Value} {b' : Bool → List Gr} {c' : Bool → Nat} {x : Bool} (hb : Blk w' wb 68 (wa e bv' sv { W with b := b', c := c', bad := x }))
    (hbags : ∀ s, (bv' s = bv s ∧ b' s = W.b s) ∨ ∃ A n c L, bv' s = .slice A n c ∧ RgV w' (fun k => Nm w wb e sv k ∨ w.heap.size ≤ k) A n c L ∧ b' s = L.map (·.2)) : WmX w' B wb e bv' sv { W with b := b', c := c', bad := x } := by
  have hm : ∀ k, Nm w wb e sv k → k < w'.heap.size → Nm w' wb e sv k := fun k hk hl => h.nm hf.size (.inl hk) hl
  have hn : ∀ k, Nm w wb e sv k → ¬ k = wb := fun k hk => hk.1
  refine ⟨hb, fun s => ((h.ends s).fu hf hn (h.new s)).sub hm (fun q => q.2.1 s rfl), fun s => ?_, fun s => ?_, h.low, h.new, h.two, h.apart⟩
  · rcases hbags s with ⟨e1, e2⟩ | ⟨A, n, c, L, e1, h1, h2⟩
    · obtain ⟨A, n, c, L, e3, h1, h2⟩ := h.bags s
      exact ⟨A, n, c, L, e1.trans e3, (h1.fu hf hn).sub hm, e2.trans h2⟩
    · exact ⟨A, n, c, L, e1, h1.sub (fun k hk hl => h.nm hf.size hk hl), h2⟩
  · obtain ⟨L, h1, h2, h3⟩ := h.sent s
    exact ⟨L, own_fu h1 hf (fun g hg q => h.svW s (q ▸ hg)), fun p hp => ((h2 p hp).fu hf hn).sub hm, h3⟩
/-- An end alone is written. -/
theorem WmX.endTo (h : WmX w B wb e bv sv W) (s : Bool) {E : En} (hf : Fu (fun k => k = e s) w w') (he : Ed w' (e s) (fun k => Nm w wb e sv k ∨ w.heap.size ≤ k) E) : WmX w' B wb e bv sv { W with e := upd W.e s E } := by
  have hm : ∀ k, Nm w wb e sv k → k < w'.heap.size → Nm w' wb e sv k := fun k hk hl => h.nm hf.size (.inl hk) hl
  have hn : ∀ k, Nm w wb e sv k → ¬ k = e s := fun k hk => hk.2.1 s
  refine ⟨blk_fu h.blk hf (fun q => h.new s q.symm), fun t => ?_, fun t => ?_, fun t => ?_, h.low, h.new, h.two, h.apart⟩
  · rcases side s t with rfl | rfl
    · show Ed w' (e t) _ (upd W.e t E t)
      rw [upd_same]
      exact he.sub (fun k hk hl => h.nm hf.size hk hl) (fun q => q.2.1 t rfl)
    · show Ed w' (e (!s)) _ (upd W.e s E (!s))
      rw [upd_not]
      exact ((h.ends (!s)).fu hf hn (h.ne2 s)).sub hm (fun q => q.2.1 _ rfl)
  · obtain ⟨A, n, c, L, e1, h1, h2⟩ := h.bags t
    exact ⟨A, n, c, L, e1, (h1.fu hf hn).sub hm, h2⟩
  · obtain ⟨L, h1, h2, h3⟩ := h.sent t
    exact ⟨L, own_fu h1 hf (fun g hg q => h.svE t s (q ▸ hg)), fun p hp => ((h2 p hp).fu hf hn).sub hm, h3⟩
/-- One more that was sent. -/
theorem WmX.sentTo (h : WmX w B wb e bv sv W) (s : Bool) {w2 : World} {x v' : Value} {d : List UInt8} (hx : Dt w (Nm w wb e sv) x d) (hg : w.grownBy w2 (sv s).ownBlock)
    {L : List Ld} (hL1 : L.map (·.2) = W.s s) (hL2 : ∀ p ∈ L, Dt w (Nm w wb e sv) p.1 p.2) (hv : w2.ownsRow B 34 1 v' (L.length + 1) (lvs L ++ [x])) (hat : v'.ownBlock = (sv s).ownBlock ∨ ∃ g, v'.ownBlock = some g ∧ w.heap.size ≤ g) :
    WmX (w2.setCell ⟨wb, 4 + so s, none⟩ v') B wb e bv (upd sv s v') { W with s := upd W.s s (W.s s ++ [d]) } := by
  obtain ⟨w3, hw3⟩ : ∃ w3, w2.setCell ⟨wb, 4 + so s, none⟩ v' = w3 := ⟨_, rfl⟩
  have hset := grown_setCell w2 ⟨wb, 4 + so s, none⟩ v'
  rw [hw3] at hset
  have hf : Fu (fun k => k = wb ∨ (sv s).ownBlock = some k) w w3 := (Fu.ofGrown hg (fun k q => .inr q)).step hset (fun k q => by injection q with q; exact .inl (.inl q.symm))
  have hn : ∀ k, Nm w wb e sv k → ¬ (k = wb ∨ (sv s).ownBlock = some k) := fun k hk q => q.elim hk.1 (hk.2.2.1 s)
  have hm : ∀ k, Nm w wb e sv k → k < w3.heap.size → Nm w3 wb e (upd sv s v') k := fun k hk hl => by
    refine ⟨hk.1, hk.2.1, fun t => ?_, hl⟩
    rcases side s t with rfl | rfl
    · rw [upd_same]
      rcases hat with q | ⟨g, q, hgl⟩
      · rw [q]; exact hk.2.2.1 t
      · rw [q]; intro q2; injection q2 with q2; have := hk.2.2.2; omega
    · rw [upd_not]; exact hk.2.2.1 _
  have hb2 : Blk w2 wb 68 (wa e bv sv W) := h.blk.grown hg (fun q => h.svW s q.symm)
  have hvW : v'.ownBlock ≠ some wb := by
    rcases hat with q | ⟨g, q, hgl⟩
    · rw [q]; exact h.svW s
    · rw [q]; intro q2; injection q2 with q2; have := h.lt.1; omega
  rw [hw3]
  refine ⟨?_, fun t => ((h.ends t).fu hf hn (fun q => q.elim (h.new t) (h.svE s t))).sub hm (fun q => q.2.1 t rfl), fun t => ?_, fun t => ?_, h.low, h.new, h.two, fun t g => ?_⟩
  · have hk := hb2.setCell (4 + so s) v'
    rw [hw3] at hk
    cases s <;> simpa [so, upd, wa] using hk
  · obtain ⟨A, n, c, L, e1, h1, h2⟩ := h.bags t
    exact ⟨A, n, c, L, e1, (h1.fu hf hn).sub hm, h2⟩
  · rcases side s t with rfl | rfl
    · refine ⟨L ++ [(x, d)], ?_, fun p hp => ?_, ?_⟩
      · show w3.ownsRow B _ 1 (upd sv t v' t) _ _
        rw [upd_same]
        have h4 := own_grown hv hset (fun k hk q => by injection q with q; exact hvW (hk.trans (congrArg some q)))
        rw [List.length_append, lvs, List.map_append]
        exact h4
      · rcases List.mem_append.1 hp with hp | hp
        · exact ((hL2 p hp).fu hf hn).sub hm
        · rw [List.mem_singleton.1 hp]; exact (hx.fu hf hn).sub hm
      · show _ = upd W.s t (W.s t ++ [d]) t
        rw [upd_same, List.map_append, hL1]; rfl
    · obtain ⟨K, h1, h2, h3⟩ := h.sent (!s)
      refine ⟨K, ?_, fun p hp => ((h2 p hp).fu hf hn).sub hm, ?_⟩
      · show w3.ownsRow B _ 1 (upd sv s v' (!s)) _ _
        rw [upd_not]
        exact own_fu h1 hf (fun g hg q => q.elim (fun q => h.svW _ (q ▸ hg)) (fun q => h.apart s g q hg))
      · show _ = upd W.s s (W.s s ++ [d]) (!s)
        rw [upd_not]; exact h3
  · intro q1 q2
    rcases side s t with rfl | rfl
    · rw [upd_same] at q1
      rw [upd_not] at q2
      rcases hat with q | ⟨g', q, hgl⟩
      · exact h.apart t g (q ▸ q1) q2
      · rw [q] at q1; injection q1 with q1; have := (h.svLt _ q2).2; omega
    · rw [upd_not] at q1
      rw [Bool.not_not, upd_same] at q2
      rcases hat with q | ⟨g', q, hgl⟩
      · exact h.apart s g (q ▸ q2) q1
      · rw [q] at q2; injection q2 with q2; have := (h.svLt _ q1).2; omega
/-! ### the bag of one side -/
abbrev bctx (e : Bool → Nat) (bv sv : Bool → Value) (W : Wd) (s : Bool) : Value → Array Value := fun v => wa e (upd bv s v) sv W
theorem bhole (s : Bool) : Hole (2 + so s) (bctx e bv sv W s) := ⟨fun v => by cases s <;> simp [so, upd, wa], fun v v' => by cases s <;> simp [so, upd, wa]⟩
theorem upd_self {α : Type} (f : Bool → α) (s : Bool) : upd f s (f s) = f := funext fun t => by
  rcases side s t with rfl | rfl
  · exact upd_same _ _ _
  · exact upd_not _ _ _
theorem WmX.bag (h : WmX w B wb e bv sv W) (s : Bool) : Rg w wb 68 (2 + so s) (bctx e bv sv W s) (Nm w wb e sv) (W.b s) := by
  obtain ⟨A, n, c, L, e1, h1, h2⟩ := h.bags s
  refine ⟨A, n, c, L, h2, h1.x ?_⟩
  show Blk w wb _ (wa e (upd bv s (.slice A n c)) sv W)
  rw [← e1, upd_self]
  exact h.blk
theorem WmX.bagTo (h : WmX w B wb e bv sv W) (s : Bool) {l : List Gr} (hf : Fu (fun k => k = wb) w w') (hr : Rg w' wb 68 (2 + so s) (bctx e bv sv W s) (fun k => Nm w wb e sv k ∨ w.heap.size ≤ k) l) : ∃ v, WmX w' B wb e (upd bv s v) sv (wBag W s l) := by
  obtain ⟨A, n, c, L, h2, h1⟩ := hr
  refine ⟨.slice A n c, h.blkTo hf (b' := upd W.b s l) (c' := W.c) (x := W.bad) h1.blk (fun t => ?_)⟩
  rcases side s t with rfl | rfl
  · exact .inr ⟨A, n, c, L, upd_same _ _ _, h1.v, by rw [upd_same]; exact h2⟩
  · exact .inl ⟨upd_not _ _ _, upd_not _ _ _⟩
theorem WmX.setC (h : WmX w B wb e bv sv W) (s : Bool) (k : Nat) : WmX (w.setCell ⟨wb, 6 + so s, none⟩ (.int .i64 (k : Int))) B wb e bv sv { W with c := upd W.c s k } :=
  h.blkTo (fu_set1 (Fu.refl _ _) _ _) (b' := W.b) (c' := upd W.c s k) (x := W.bad) (by have := h.blk.setCell (6 + so s) (.int .i64 (k : Int)); cases s <;> simpa [so, upd, wa] using this) (fun t => .inl ⟨rfl, rfl⟩)
theorem WmX.setBad (h : WmX w B wb e bv sv W) (x : Bool) : WmX (w.setCell ⟨wb, 8, none⟩ (.bool x)) B wb e bv sv { W with bad := x } :=
  h.blkTo (fu_set1 (Fu.refl _ _) _ _) (b' := W.b) (c' := W.c) (x := x) (by have := h.blk.setCell 8 (.bool x); simpa [wa] using this) (fun t => .inl ⟨rfl, rfl⟩)
theorem WmX.badSame (h : WmX w B wb e bv sv W) {x : Bool} (hx : W.bad = x) : WmX (w.setCell ⟨wb, 8, none⟩ (.bool x)) B wb e bv sv W := by
  have := h.setBad x
  subst hx
  exact this
/-! ### cells -/
theorem so_lt (s : Bool) : so s < 2 := by cases s <;> decide
theorem so_not (s : Bool) : so (!s) = 1 - so s := by cases s <;> rfl
theorem WmX.cE (h : WmX w B wb e bv sv W) (s : Bool) : w.cell? ⟨wb, so s, none⟩ = some (.pointer (some ⟨e s, 0, none⟩)) := by cases s <;> exact h.blk.cell rfl
theorem WmX.cB (h : WmX w B wb e bv sv W) (s : Bool) : w.cell? ⟨wb, 2 + so s, none⟩ = some (bv s) := by cases s <;> exact h.blk.cell rfl
theorem WmX.cS (h : WmX w B wb e bv sv W) (s : Bool) : w.cell? ⟨wb, 4 + so s, none⟩ = some (sv s) := by cases s <;> exact h.blk.cell rfl
theorem WmX.cC (h : WmX w B wb e bv sv W) (s : Bool) : w.cell? ⟨wb, 6 + so s, none⟩ = some (.int .i64 (W.c s : Int)) := by cases s <;> exact h.blk.cell rfl
theorem WmX.cX (h : WmX w B wb e bv sv W) : w.cell? ⟨wb, 8, none⟩ = some (.bool W.bad) := h.blk.cell rfl
theorem WmX.below (h : WmX w B wb e bv sv W) {S : Nat → Prop} (hf : Fu S w w') (hs : ∀ k, S k → k = wb ∨ (∃ s, k = e s) ∨ ∃ s, (sv s).ownBlock = some k) : Below B w w' :=
  hf.below (by have := h.low.1; have := h.lt.1; omega) (fun k hk => by
    rcases hs k hk with rfl | ⟨s, rfl⟩ | ⟨s, q⟩
    · exact h.low.1
    · exact h.low.2 s
    · exact (h.svLt s q).1)
end
end Ses
end Go.Proofs.Ytlmaelbalmjlbaa
