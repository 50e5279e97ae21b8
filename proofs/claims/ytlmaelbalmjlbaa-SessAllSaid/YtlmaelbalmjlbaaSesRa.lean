/- XSesRa, XSesRb, XSesRc, XSesRd, XSesRe. -/
import Derived.Test.YtlmaelbalmjlbaaSesQ
set_option linter.all false
namespace Go.Proofs.Ytlmaelbalmjlbaa
open Go.RowKit
namespace Ses
open Net

/-- A block's cells, as a function of the bag's value, which is the cell number o. -/
structure Hole (o : Nat) (ctx : Value → Array Value) : Prop where
  at_ : ∀ v, (ctx v)[o]? = some v
  set : ∀ v v', (ctx v).setIfInBounds o v' = ctx v'
/-- Where a slice lies: its blocks are some of V; a nil one has no room. -/
structure Vd (w : World) (V : Nat → Prop) (X : Option Addr) (d : Nat) : Prop where
  fn : ∀ a, X = some a → V a.block ∧ a.block < w.heap.size
  z : X = none → d = 0
instance {w : World} {V : Nat → Prop} {X : Option Addr} {d : Nat} : CoeFun (Vd w V X d) (fun _ => ∀ a, X = some a → V a.block ∧ a.block < w.heap.size) := ⟨Vd.fn⟩
/-- The document's bag at block r: all its blocks but r itself are some of V. -/
structure RgX (w : World) (r : Nat) (TT : TypeId) (oo : Nat) (ctx : Value → Array Value) (V : Nat → Prop) (A : Option Addr) (n c : Nat) (L : List (Value × Gr)) : Prop where
  blk : Blk w r TT (ctx (.slice A n c))
  row : Rd w A 2 n (gvs L)
  nil : A = none → n = 0
  le : n ≤ c
  cap : c ≤ 9223372036854775807
  len : n = L.length
  rowV : ∀ a, A = some a → V a.block ∧ a.block < w.heap.size
  data : ∀ p ∈ L, ∃ X m d, p.1 = .slice X m d ∧ Bs w X m p.2.b ∧ m ≤ d ∧ d ≤ 9223372036854775807 ∧ m ≤ 140737488351300 ∧ Vd w V X d
  few : n ≤ 256
def Rg (w : World) (r : Nat) (TT : TypeId) (oo : Nat) (ctx : Value → Array Value) (V : Nat → Prop) (l : List Gr) : Prop := ∃ A n c L, l = L.map (·.2) ∧ RgX w r TT oo ctx V A n c L
theorem rd_fu {S : Nat → Prop} {w w' : World} {A : Option Addr} {sz n : Nat} {xs : List Value} (h : Rd w A sz n xs) (hf : Fu S w w') (hs : ∀ a, A = some a → ¬ S a.block) : Rd w' A sz n xs :=
  ⟨h.1, fun j u hu => by
    obtain ⟨b, o, e, hc⟩ := h.2 j u hu
    refine ⟨b, o, e, ?_⟩
    have hb := hf.block b (cell_lt hc) (hs _ e)
    unfold World.cell? at hc ⊢
    simp only at hc ⊢
    rw [hb]
    exact hc⟩
theorem RgX.fu {S : Nat → Prop} {w w' : World} {r : Nat} {TT : TypeId} {oo : Nat} {ctx : Value → Array Value} {V : Nat → Prop} {A : Option Addr} {n c : Nat} {L : List (Value × Gr)} (h : RgX w r TT oo ctx V A n c L) (hf : Fu S w w') (hs : ∀ k, V k → ¬ S k) (hr : ¬ S r) : RgX w' r TT oo ctx V A n c L :=
  ⟨blk_fu h.blk hf hr, rd_fu h.row hf (fun a e => hs _ (h.rowV a e).1), h.nil, h.le, h.cap, h.len, fun a e => ⟨(h.rowV a e).1, Nat.lt_of_lt_of_le (h.rowV a e).2 hf.size⟩, fun p hp => by
    obtain ⟨X, m, d, e, hb, h1, h2, h3, h4⟩ := h.data p hp
    exact ⟨X, m, d, e, rd_fu hb hf (fun a ea => hs _ (h4 a ea).1), h1, h2, h3, ⟨fun a ea => ⟨(h4 a ea).1, Nat.lt_of_lt_of_le (h4 a ea).2 hf.size⟩, h4.z⟩⟩, h.few⟩
theorem RgX.keep {w w' : World} {r : Nat} {TT : TypeId} {oo : Nat} {ctx : Value → Array Value} {V : Nat → Prop} {A : Option Addr} {n c : Nat} {L : List (Value × Gr)} (h : RgX w r TT oo ctx V A n c L) (hb : Below w.heap.size w w') : RgX w' r TT oo ctx V A n c L := h.fu (S := fun _ => False) (Fu.ofBelow hb) (fun _ _ e => e) (fun e => e)
theorem Rg.fu {S : Nat → Prop} {w w' : World} {r : Nat} {TT : TypeId} {oo : Nat} {ctx : Value → Array Value} {V : Nat → Prop} {l : List Gr} (h : Rg w r TT oo ctx V l) (hf : Fu S w w') (hs : ∀ k, V k → ¬ S k) (hr : ¬ S r) : Rg w' r TT oo ctx V l := by
  obtain ⟨A, n, c, L, e, hx⟩ := h; exact ⟨A, n, c, L, e, hx.fu hf hs hr⟩
theorem Rg.keep {w w' : World} {r : Nat} {TT : TypeId} {oo : Nat} {ctx : Value → Array Value} {V : Nat → Prop} {l : List Gr} (h : Rg w r TT oo ctx V l) (hb : Below w.heap.size w w') : Rg w' r TT oo ctx V l := by
  obtain ⟨A, n, c, L, e, hx⟩ := h; exact ⟨A, n, c, L, e, hx.keep hb⟩
theorem RgX.sub {w : World} {r : Nat} {TT : TypeId} {oo : Nat} {ctx : Value → Array Value} {V V' : Nat → Prop} {A : Option Addr} {n c : Nat} {L : List (Value × Gr)} (h : RgX w r TT oo ctx V A n c L) (hv : ∀ k, V k → k < w.heap.size → V' k) : RgX w r TT oo ctx V' A n c L :=
  ⟨h.blk, h.row, h.nil, h.le, h.cap, h.len, fun a e => ⟨hv _ (h.rowV a e).1 (h.rowV a e).2, (h.rowV a e).2⟩, fun p hp => by
    obtain ⟨X, m, d, e, hb, h1, h2, h3, h4⟩ := h.data p hp
    exact ⟨X, m, d, e, hb, h1, h2, h3, ⟨fun a ea => ⟨hv _ (h4 a ea).1 (h4 a ea).2, (h4 a ea).2⟩, h4.z⟩⟩, h.few⟩
theorem Rg.sub {w : World} {r : Nat} {TT : TypeId} {oo : Nat} {ctx : Value → Array Value} {V V' : Nat → Prop} {l : List Gr} (h : Rg w r TT oo ctx V l) (hv : ∀ k, V k → k < w.heap.size → V' k) : Rg w r TT oo ctx V' l := by
  obtain ⟨A, n, c, L, e, hx⟩ := h; exact ⟨A, n, c, L, e, hx.sub hv⟩
theorem Rg.lt {w : World} {r : Nat} {TT : TypeId} {oo : Nat} {ctx : Value → Array Value} {V : Nat → Prop} {l : List Gr} (h : Rg w r TT oo ctx V l) : r < w.heap.size := by obtain ⟨A, n, c, L, e, hx⟩ := h; exact hx.blk.lt
theorem Rg.drewN {w : World} {r : Nat} {TT : TypeId} {oo : Nat} {ctx : Value → Array Value} {V : Nat → Prop} {l : List Gr} (h : Rg w r TT oo ctx V l) (k : Nat) : Rg (w.drewN k) r TT oo ctx V l := by
  obtain ⟨A, n, c, L, e, hx⟩ := h
  exact ⟨A, n, c, L, e, ⟨hx.blk, hx.row, hx.nil, hx.le, hx.cap, hx.len, hx.rowV, fun p hp => by
    obtain ⟨X, m, d, e, hb, h1, h2, h3, h4⟩ := hx.data p hp
    exact ⟨X, m, d, e, hb, h1, h2, h3, ⟨h4.fn, h4.z⟩⟩, hx.few⟩⟩
/-- A new list, in new memory, stored. -/
theorem RgX.put {w w2 : World} {r B n' : Nat} {TT : TypeId} {oo : Nat} {ctx : Value → Array Value} (hHo : Hole oo ctx) {V V' : Nat → Prop} {A : Option Addr} {n c : Nat} {L L' : List (Value × Gr)} {v : Value} (h : RgX w r TT oo ctx V A n c L) (hg : w.grownBy w2 none) (hv : w2.ownsRow B 98 2 v n' (gvs L')) (hB : w.heap.size ≤ B)
    (hn : n' = L'.length) (hf : n' ≤ 256) (hV : ∀ k, V k → V' k) (hV2 : ∀ k, w.heap.size ≤ k → V' k)
    (hd : ∀ p ∈ L', p ∈ L ∨ ∃ X m d, p.1 = .slice X m d ∧ Bs w2 X m p.2.b ∧ m ≤ d ∧ d ≤ 9223372036854775807 ∧ m ≤ 140737488351300 ∧ ((∀ a, X = some a → V' a.block ∧ a.block ≠ r ∧ a.block < w2.heap.size) ∧ (X = none → d = 0))) (hr : ¬ V r) :
    Rg (w2.setCell ⟨r, oo, none⟩ v) r TT oo ctx V' (L'.map (·.2)) ∧ Fu (fun k => k = r) w (w2.setCell ⟨r, oo, none⟩ v) := by
  obtain ⟨A', c', rfl, h1, h2, h3⟩ := own_form hv
  unfold maxLen at h2
  have hset := grown_setCell w2 ⟨r, oo, none⟩ (.slice A' n' c')
  have hrl := h.blk.lt
  have hsz := hg.size
  have hAr : ∀ a, A' = some a → a.block ≠ r ∧ w.heap.size ≤ a.block ∧ a.block < w2.heap.size := fun a e => by
    have := hv.lt a.block (by rw [e]; rfl)
    omega
  refine ⟨⟨A', n', c', L', rfl, ?_⟩, (Fu.ofGrown hg (fun k e => by cases e)).step hset (fun k e => by injection e with e; exact .inl e.symm)⟩
  refine ⟨?_, ?_, fun e => (h3 e).1, h1, by omega, hn, fun a e => ?_, fun p hp => ?_, hf⟩
  · have := (h.blk.grown hg (fun e => by cases e)).setCell oo (.slice A' n' c')
    rw [hHo.set] at this
    simpa using this
  · exact (rd_own hv).grown hset (fun a e q => (hAr a e).1 (by injection q))
  · have := hAr a e
    exact ⟨hV2 _ (by omega), by simpa [World.setCell] using this.2.2⟩
  · rcases hd p hp with hp | ⟨X, m, d, e, hb, k1, k2, k3, k4⟩
    · obtain ⟨X, m, d, e, hb, k1, k2, k3, k4⟩ := h.data p hp
      have hlt : ∀ a, X = some a → a.block < w2.heap.size := fun a ea => by have := (k4 a ea).2; omega
      exact ⟨X, m, d, e, (hb.grown hg (fun a ea q => by cases q)).grown hset (fun a ea q => by injection q with q; exact hr ((show a.block = r from q) ▸ (k4 a ea).1)), k1, k2, k3, ⟨fun a ea => ⟨hV _ (k4 a ea).1, by simpa [World.setCell] using hlt a ea⟩, k4.z⟩⟩
    · exact ⟨X, m, d, e, hb.grown hset (fun a ea q => by injection q with q; exact (k4.1 a ea).2.1 q), k1, k2, k3, ⟨fun a ea => ⟨(k4.1 a ea).1, by simpa [World.setCell] using (k4.1 a ea).2.2⟩, k4.2⟩⟩
section
variable (w : World)
set_option maxRecDepth 100000 in
set_option maxHeartbeats 1000000 in
theorem rhas_ (r : Nat) (TT : TypeId) (oo : Nat) (ctx : Value → Array Value) (hHo : Hole oo ctx) (V : Nat → Prop) (A : Option Addr) (n c : Nat) (L : List (Value × Gr)) (h : RgX w r TT oo ctx V A n c L) (i : Int) : Calls Try.prog 47 #[.pointer (some ⟨r, oo, none⟩), .int .i64 i] w fun e w' => e = .returned (.bool (hasB (L.map (·.2)) i)) ∧ w = w' := by
  have c0 := h.blk.cell (j := oo) (u := .slice A n c) (hHo.at_ _)
  have HT := Lib.hid (show hasB (L.map (·.2)) i = (decide (0 ≤ i) && decide (i < (n : Int))) by unfold hasB; rw [List.length_map, h.len])
  clear h
  by_cases h0 : 0 ≤ i
  · by_cases h1 : i < (n : Int)
    · have HE := Lib.hid (show hasB (L.map (·.2)) i = true by rw [HT.out]; simp [h0, h1])
      go_enter Try.func47, Try.ntmps47
      go_wp2
      go_ret
      rw [HE.out]
      exact ⟨rfl, rfl⟩
    · have HE := Lib.hid (show hasB (L.map (·.2)) i = false by rw [HT.out]; simp [h1])
      go_enter Try.func47, Try.ntmps47
      go_wp2
      go_ret
      rw [HE.out]
      exact ⟨rfl, rfl⟩
  · have HE := Lib.hid (show hasB (L.map (·.2)) i = false by rw [HT.out]; simp [h0])
    go_enter Try.func47, Try.ntmps47
    go_wp2
    go_ret
    rw [HE.out]
    exact ⟨rfl, rfl⟩
theorem info_rgram : (Try.prog.info? 98).map (fun i => (i.zero, i.size, i.bytes)) = some (some (.agg #[.slice none 0 0, .bool false]), 2, 32) := by kernel_rfl
theorem rgram_info : ∃ i, Try.prog.info? 98 = some i ∧ i.zero = some (.agg #[.slice none 0 0, .bool false]) ∧ i.size = 2 ∧ i.bytes = 32 := by
  obtain ⟨i, hi, he⟩ := Option.map_eq_some_iff.1 info_rgram
  simp only [Prod.mk.injEq] at he
  exact ⟨i, hi, he.1, he.2.1, he.2.2⟩
theorem RgX.forms {w : World} {r : Nat} {TT : TypeId} {oo : Nat} {ctx : Value → Array Value} {V : Nat → Prop} {A : Option Addr} {n c : Nat} {L : List (Value × Gr)} (h : RgX w r TT oo ctx V A n c L) : ∀ p ∈ L, ∃ X m c, p.1 = .slice X m c := fun p hp => by
  obtain ⟨X, m, d, e, _⟩ := h.data p hp
  exact ⟨X, m, d, e⟩
end
end Ses
end Go.Proofs.Ytlmaelbalmjlbaa

set_option linter.all false
namespace Go.Proofs.Ytlmaelbalmjlbaa
open Go.RowKit
namespace Ses
open Net
theorem rd_keep {w w' : World} {A : Option Addr} {sz n : Nat} {xs : List Value} (h : Rd w A sz n xs) (hg : w.grownBy w' none) : Rd w' A sz n xs := h.grown hg (fun a ha q => by cases q)
theorem undrew {w w' : World} {row : Option Nat} (h : w.drew.grownBy w' row) : w.grownBy w' row := ⟨h.os, h.tape, h.output, h.size, h.block⟩
section
variable (w : World)
set_option maxRecDepth 100000 in
set_option maxHeartbeats 8000000 in
theorem rput_ (r : Nat) (TT : TypeId) (oo : Nat) (ctx : Value → Array Value) (hHo : Hole oo ctx) (V : Nat → Prop) (l : List Gr) (h : Rg w r TT oo ctx V l) (hV : ∀ k, V k → k < w.heap.size) (hVr : ¬ V r) (G : Option Addr) (n c : Nat) (gs : List (List UInt8))
    (hgs : ∀ w1, Fu (fun k => k = r) w w1 → Bss w1 G n gs) (hnc : n ≤ c) (hc : c ≤ 9223372036854775807) (hlen : ∀ d ∈ gs, d.length ≤ 140737488351300) (hl256 : l.length ≤ 256) :
    Calls Try.prog 44 #[.pointer (some ⟨r, oo, none⟩), .slice G n c] w fun e w' => e = .returned (.int .i64 (putN l gs : Nat)) ∧ Rg w' r TT oo ctx (fun k => V k ∨ w.heap.size ≤ k) (putS l gs) ∧ Fu (fun k => k = r) w w' := by
  obtain ⟨i0, hi0', hz0, hz1, hz2⟩ := rgram_info
  have Hz := Lib.hid hz2
  obtain ⟨i1, hi1', hy0, hy1, hy2⟩ := info_parts info_u8
  have Hy := Lib.hid hy2
  clear hz2 hy2
  have Hn := Lib.hid (hgs w (Fu.refl _ _)).1
  have hrl := h.lt
  obtain ⟨k, hk⟩ : ∃ k, l.length = k := ⟨_, rfl⟩
  have Hk := Lib.hid hk
  rw [hk] at hl256
  clear hk
  go_enter Try.func44, Try.ntmps44
  go_wp2_with fail
  go_loopw [5, 6] (fun nv iv wr => ∃ q : Nat, q ≤ n ∧ k + q ≤ 256 ∧ nv = .int .i64 (q : Int) ∧ iv = .int .i64 (q : Int) ∧ Rg wr r TT oo ctx (fun k => V k ∨ w.heap.size ≤ k) (l ++ (gs.take q).map (fun d => (⟨d, false⟩ : Gr))) ∧ Fu (fun k => k = r) w wr) (fun _ iv _ => n - (intOf iv).toNat)
  case atStart => exact ⟨0, Nat.zero_le _, by omega, rfl, rfl, by simpa using h.sub (fun k hk _ => Or.inl hk), Fu.refl _ _⟩
  case round =>
    obtain ⟨q, hq, hq256, rfl, rfl, hR, hF⟩ := hrel
    obtain ⟨A, m, cc, L, hL, hX⟩ := hR
    have HL := Lib.hid hL
    have hmk : m = k + q := by
      have h1 := congrArg List.length HL.out
      rw [List.length_append, List.length_map, List.length_map, List.length_take, ← hX.len, Hk.out] at h1
      have := Hn.out
      omega
    have Hmk := Lib.hid hmk
    have c0 := hX.blk.cell (j := oo) (u := .slice A m cc) (hHo.at_ _)
    have cf := hX.blk.free oo
    have hm256 := hX.few
    have hq0 : (0 : Int) ≤ (q : Int) := by omega
    clear hL hmk
    by_cases h1 : q < n
    · have hqi : (q : Int) < (n : Int) := by omega
      by_cases h2 : m < 256
      · have hmi : (m : Int) < 256 := by omega
        have hsz := hF.size
        have hG := hgs wr hF
        have hil2 : q < gs.length := by have := Hn.out; omega
        obtain ⟨ba, oa, X, nx, cx, rfl, hcx, hnx, hcx2, hbx⟩ := hG.2 q hil2
        have hdl := hlen gs[q] (List.getElem_mem hil2)
        have HT := Lib.hid (take_snoc (List.getElem?_eq_getElem hil2))
        obtain ⟨d, hd⟩ : ∃ d, gs[q] = d := ⟨_, rfl⟩
        rw [hd] at hbx hdl HT
        have Hx := Lib.hid hbx.len
        have hnx3 : nx ≤ 140737488351300 := by have := Hx.out; omega
        have hcxl := cell_lt hcx
        have hrl2 := hX.blk.lt
        have hrow := hX.row
        have hnil := hX.nil
        have hone := gvs_one hX.forms
        have hbz := fun h => hbx.zero h
        have HX := Lib.hid hX
        clear hX hG hd
        go_wp2_with fail
        go_region_law (first
          -- A: the list
          | (refine step_app _ rfl (.const (.slice none 0 0)) (.tmp 25) _ rfl wr.heap.size 98 i0 _ 2 32 Try.underlying61 hi0' hz0 hz1 Hz.out rfl (by omega) (.slice none 0 0) 0 [] rfl (own_nil _ _ _ _) A m cc (gvs L) rfl hnil (show Rd wr.drew A 2 m (gvs L) from hrow) hone (by unfold maxLen; omega) (by omega) (Nat.le_refl _) ?_
             intro vA wA hownA hgA hatA
             obtain ⟨AA, cA, rfl, hcA, hmA, haA⟩ := own_form hownA
             simp only [Nat.zero_add, List.nil_append] at hownA hcA haA ⊢
             have hgA' : wr.grownBy wA none := undrew hgA
             have hsA : wr.heap.size ≤ wA.heap.size := hgA'.size
             have cxA : wA.cell? ⟨ba, oa + q, none⟩ = some (.slice X nx cx) := hgA'.cell hcx (fun e => by cases e))
          | (refine step_app _ rfl (.const (.slice none 0 0)) (.tmp 25) _ rfl wr.heap.size 98 i0 _ 2 32 Try.underlying61 hi0' hz0 hz1 Hz.out rfl (by omega) (.slice none 0 0) 0 [] rfl (own_nil _ _ _ _) A m cc (gvs L) rfl hnil (rd_keep hrow hgB') hone (by unfold maxLen; omega) (by omega) hsB ?_
             intro vA wA hownA hgA2 hatA
             obtain ⟨AA, cA, rfl, hcA, hmA, haA⟩ := own_form hownA
             simp only [Nat.zero_add, List.nil_append] at hownA hcA haA ⊢
             have hgA' : wr.grownBy wA none := hgB'.trans hgA2
             have hsA : wr.heap.size ≤ wA.heap.size := hgA'.size
             have hB4 := own_keep (own_keep hownB (grown_none_below hgA2)) ((Below.refl wA.heap.size wA).alloc (Nat.le_refl _) (.cells #[.slice AB nx cB, .bool false] 98))
             have hg4 := hgA'.trans (World.grownBy_alloc wA (.cells #[.slice AB nx cB, .bool false] 98) none)
             have hownA4 : (wA.alloc (.cells #[.slice AB nx cB, .bool false] 98)).ownsRow wr.heap.size 98 2 (.slice AA m cA) m (gvs L) := own_keep hownA ((Below.refl _ _).alloc (Nat.le_refl _) _)
             have hnew2 : Rd (wA.alloc (.cells #[.slice AB nx cB, .bool false] 98)) (some ⟨wA.heap.size, 0, none⟩) 2 1 (gv (.slice AB nx cB, ⟨d, false⟩)) := Rd.new wA _ _ (0, 0) (sz := 2) (n := 1) rfl
             have hb2 : wr.heap.size ≤ (wA.alloc (.cells #[.slice AB nx cB, .bool false] 98)).heap.size := by simp; omega)
          | (refine step_app _ rfl (.const (.slice none 0 0)) (.tmp 25) _ rfl wr.heap.size 98 i0 _ 2 32 Try.underlying61 hi0' hz0 hz1 Hz.out rfl (by omega) (.slice none 0 0) 0 [] rfl (own_nil _ _ _ _) A m cc (gvs L) rfl hnil (rd_keep hrow (hgB'.trans (World.grownBy_alloc wB (.cells #[.slice AB nx cB, .bool false] 98) none))) hone (by unfold maxLen; omega) (by omega) (by simp; omega) ?_
             intro vA wA hownA hgA2 hatA
             obtain ⟨AA, cA, rfl, hcA, hmA, haA⟩ := own_form hownA
             simp only [Nat.zero_add, List.nil_append] at hownA hcA haA ⊢
             have hgA' : wr.grownBy wA none := (hgB'.trans (World.grownBy_alloc wB (.cells #[.slice AB nx cB, .bool false] 98) none)).trans hgA2
             have hsA : wr.heap.size ≤ wA.heap.size := hgA'.size
             have hB5 := own_keep (own_keep hownB ((Below.refl wB.heap.size wB).alloc (Nat.le_refl _) (.cells #[.slice AB nx cB, .bool false] 98))) (grown_none_below hgA2)
             have hnewA := rd_keep (Rd.new wB #[.slice AB nx cB, .bool false] 98 (0, 0) (sz := 2) (n := 1) rfl) hgA2)
          -- B: the bytes
          | (refine step_app _ rfl (.const (.slice none 0 0)) (.tmp 30) _ rfl wr.heap.size 5 i1 _ 1 1 Try.underlying34 hi1' hy0 hy1 Hy.out rfl (by omega) (.slice none 0 0) 0 [] rfl (own_nil _ _ _ _) X nx cx (bvs d) rfl hbz (show Rd wr.drew X 1 nx (bvs d) from hbx) (bvs_one _) (by unfold maxLen; omega) (by omega) (Nat.le_refl _) ?_
             intro vB wB hownB hgB hatB
             obtain ⟨AB, cB, rfl, hcB, hmB, haB⟩ := own_form hownB
             simp only [Nat.zero_add, List.nil_append] at hownB hcB haB ⊢
             have hgB' : wr.grownBy wB none := undrew hgB
             have hsB : wr.heap.size ≤ wB.heap.size := hgB'.size
             have c0B : wB.cell? ⟨r, oo, none⟩ = some (.slice A m cc) := hgB'.cell c0 (fun e => by cases e)
             have c0B2 : (wB.alloc (.cells #[.slice AB nx cB, .bool false] 98)).cell? ⟨r, oo, none⟩ = some (.slice A m cc) := (hgB'.trans (World.grownBy_alloc wB (.cells #[.slice AB nx cB, .bool false] 98) none)).cell c0 (fun e => by cases e))
          | (refine step_app _ rfl (.const (.slice none 0 0)) (.tmp 30) _ rfl wr.heap.size 5 i1 _ 1 1 Try.underlying34 hi1' hy0 hy1 Hy.out rfl (by omega) (.slice none 0 0) 0 [] rfl (own_nil _ _ _ _) X nx cx (bvs d) rfl hbz (rd_keep hbx hgA') (bvs_one _) (by unfold maxLen; omega) (by omega) hsA ?_
             intro vB wB hownB hgB2 hatB
             obtain ⟨AB, cB, rfl, hcB, hmB, haB⟩ := own_form hownB
             simp only [Nat.zero_add, List.nil_append] at hownB hcB haB ⊢
             have hgB' : wr.grownBy wB none := hgA'.trans hgB2
             have hsB : wr.heap.size ≤ wB.heap.size := hgB'.size
             have hownA2 := own_keep hownA (grown_none_below hgB2)
             have hownA3 : (wB.alloc (.cells #[.slice AB nx cB, .bool false] 98)).ownsRow wr.heap.size 98 2 (.slice AA m cA) m (gvs L) := own_keep hownA2 ((Below.refl _ _).alloc (Nat.le_refl _) _)
             have hnew1 : Rd (wB.alloc (.cells #[.slice AB nx cB, .bool false] 98)) (some ⟨wB.heap.size, 0, none⟩) 2 1 (gv (.slice AB nx cB, ⟨d, false⟩)) := Rd.new wB _ _ (0, 0) (sz := 2) (n := 1) rfl
             have hB3 := own_keep hownB ((Below.refl wB.heap.size wB).alloc (Nat.le_refl _) (.cells #[.slice AB nx cB, .bool false] 98))
             have hg3 := hgB'.trans (World.grownBy_alloc wB (.cells #[.slice AB nx cB, .bool false] 98) none)
             have hb1 : wr.heap.size ≤ (wB.alloc (.cells #[.slice AB nx cB, .bool false] 98)).heap.size := by simp; omega)
          -- D: both
          | (refine step_app _ rfl (.tmp 26) (.tmp 33) _ rfl wr.heap.size 98 i0 _ 2 32 Try.underlying61 hi0' hz0 hz1 Hz.out rfl (by omega) (.slice AA m cA) m (gvs L) rfl hownA3 _ 1 1 (gv (.slice AB nx cB, ⟨d, false⟩)) rfl (by simp) hnew1 (gv_one _ _ _ _) (by unfold maxLen; omega) (by omega) hb1 ?_
             intro vD wD hownD hgD hatD
             obtain ⟨AD, cD, rfl, hcD, hmD, haD⟩ := own_form hownD
             have hgD' : wr.grownBy wD none := grown_step hg3 hgD (fun j e => .inl (hownA3.lt j e).1)
             have hownBD := own_grown hB3 hgD (fun k hk e => own_ne hownA3 hB3 (by decide) (g := k) e.symm hk)
             have kD : wD.cell? ⟨r, oo, none⟩ = some (.slice A m cc) := hgD'.cell c0 (fun e => by cases e)
             have fD := (HX.out.blk.grown hgD' (fun e => by cases e)).free oo)
          | (refine step_app _ rfl (.tmp 26) (.tmp 33) _ rfl wr.heap.size 98 i0 _ 2 32 Try.underlying61 hi0' hz0 hz1 Hz.out rfl (by omega) (.slice AA m cA) m (gvs L) rfl hownA4 _ 1 1 (gv (.slice AB nx cB, ⟨d, false⟩)) rfl (by simp) hnew2 (gv_one _ _ _ _) (by unfold maxLen; omega) (by omega) hb2 ?_
             intro vD wD hownD hgD hatD
             obtain ⟨AD, cD, rfl, hcD, hmD, haD⟩ := own_form hownD
             have hgD' : wr.grownBy wD none := grown_step hg4 hgD (fun j e => .inl (hownA4.lt j e).1)
             have hownBD := own_grown hB4 hgD (fun k hk e => own_ne hownA4 hB4 (by decide) (g := k) e.symm hk)
             have kD : wD.cell? ⟨r, oo, none⟩ = some (.slice A m cc) := hgD'.cell c0 (fun e => by cases e)
             have fD := (HX.out.blk.grown hgD' (fun e => by cases e)).free oo)
          | (refine step_app _ rfl (.tmp 26) (.tmp 33) _ rfl wr.heap.size 98 i0 _ 2 32 Try.underlying61 hi0' hz0 hz1 Hz.out rfl (by omega) (.slice AA m cA) m (gvs L) rfl hownA _ 1 1 (gv (.slice AB nx cB, ⟨d, false⟩)) rfl (by simp) hnewA (gv_one _ _ _ _) (by unfold maxLen; omega) (by omega) hsA ?_
             intro vD wD hownD hgD hatD
             obtain ⟨AD, cD, rfl, hcD, hmD, haD⟩ := own_form hownD
             have hgD' : wr.grownBy wD none := grown_step hgA' hgD (fun j e => .inl (hownA.lt j e).1)
             have hownBD := own_grown hB5 hgD (fun k hk e => own_ne hownA hB5 (by decide) (g := k) e.symm hk)
             have kD : wD.cell? ⟨r, oo, none⟩ = some (.slice A m cc) := hgD'.cell c0 (fun e => by cases e)
             have fD := (HX.out.blk.grown hgD' (fun e => by cases e)).free oo))
        all_goals (
          have hput := HX.out.put hHo (V' := fun k => V k ∨ w.heap.size ≤ k) hgD' (v := .slice AD (m + 1) cD) (n' := m + 1) (L' := L ++ [(.slice AB nx cB, (⟨d, false⟩ : Gr))]) (by rw [gvs_snoc]; exact hownD) (Nat.le_refl _) (by rw [List.length_append, List.length_singleton, ← HX.out.len]) (by omega) (fun j e => e) (fun j e => .inr (by omega)) (fun p hp => by
            rcases List.mem_append.1 hp with hp | hp
            · exact .inl hp
            · rw [List.mem_singleton.1 hp]
              refine .inr ⟨AB, nx, cB, rfl, bs_own hownBD, hcB, by unfold maxLen at hmB; omega, hnx3, fun a ea => ?_, fun e => (haB e).2⟩
              have := hownBD.lt a.block (by rw [ea]; rfl)
              exact ⟨.inr (by omega), by omega, this.2⟩) (fun e => e.elim hVr (by omega))
          have HP := Lib.hid hput
          clear hput hownA hgA' hgD' hownD hgD hatD hownBD hownB hrow hone
          go_wp2
          go_roundw
          case rel =>
            refine ⟨q + 1, by omega, by have := Hmk.out; omega, by go_num, by go_num, ?_, hF.then HP.out.2 (fun j e => .inl e)⟩
            have h := HP.out.1
            rw [List.map_append, ← HL.out] at h
            rw [HT.out, List.map_append, ← List.append_assoc]
            exact h
          case measure => simp [intOf]; omega)
      · have hmi : ¬ (m : Int) < 256 := by omega
        have HP := Lib.hid (show putN l gs = q by unfold putN; rw [Hk.out]; have := Hn.out; have := Hmk.out; omega)
        have HQ := Lib.hid (show putS l gs = l ++ (gs.take q).map (fun d => (⟨d, false⟩ : Gr)) by unfold putS; rw [Hk.out, show 256 - k = q by have := Hmk.out; omega])
        go_wp2
        go_ret
        rw [HP.out, HQ.out]
        exact ⟨rfl, ⟨A, m, cc, L, HL.out, hX⟩, hF⟩
    · have hqi : ¬ (q : Int) < (n : Int) := by omega
      have HP := Lib.hid (show putN l gs = q by unfold putN; rw [Hk.out]; have := Hn.out; omega)
      have HQ := Lib.hid (show putS l gs = l ++ (gs.take q).map (fun d => (⟨d, false⟩ : Gr)) by
        unfold putS
        rw [Hk.out]
        congr 2
        exact List.take_eq_take_iff.2 (by have := Hn.out; omega))
      go_wp2
      go_ret
      rw [HP.out, HQ.out]
      exact ⟨rfl, ⟨A, m, cc, L, HL.out, hX⟩, hF⟩
end
end Ses
end Go.Proofs.Ytlmaelbalmjlbaa

set_option linter.all false
namespace Go.Proofs.Ytlmaelbalmjlbaa
open Go.RowKit
namespace Ses
open Net
theorem RgX.elem {w : World} {r : Nat} {TT : TypeId} {oo : Nat} {ctx : Value → Array Value} {V : Nat → Prop} {A : Option Addr} {n c : Nat} {L : List (Value × Gr)} (h : RgX w r TT oo ctx V A n c L) {i : Nat} (hi : i < n) :
    ∃ b o X m d x, A = some ⟨b, o, none⟩ ∧ L[i]? = some (.slice X m d, x) ∧ w.cell? ⟨b, o + i * 2, none⟩ = some (.slice X m d) ∧ w.cell? ⟨b, o + i * 2 + 1, none⟩ = some (.bool x.s) ∧ Bs w X m x.b ∧ m ≤ d ∧ d ≤ 9223372036854775807 ∧ m ≤ 140737488351300 ∧ Vd w V X d := by
  have hil : i < L.length := by rw [← h.len]; exact hi
  have h0 := gvs_at hil (j := 0) (by omega)
  have h1 := gvs_at hil (j := 1) (by omega)
  simp only [Nat.add_zero] at h0
  obtain ⟨b, o, e, c0⟩ := h.row.2 _ _ h0
  obtain ⟨b', o', e', c1⟩ := h.row.2 _ _ h1
  rw [e] at e'
  injection e' with e'
  injection e' with e1 e2
  subst e1 e2
  obtain ⟨X, m, d, ex, hb, k1, k2, k3, k4⟩ := h.data _ (List.getElem_mem hil)
  rw [ex] at c0
  refine ⟨b, o, X, m, d, L[i].2, e, ?_, c0, by rw [Nat.add_assoc]; exact c1, hb, k1, k2, k3, k4⟩
  rw [List.getElem?_eq_getElem hil, ← ex]
def RTakA (r : Nat) (TT : TypeId) (oo : Nat) (ctx : Value → Array Value) (V : Nat → Prop) (l : List Gr) (i : Int) (w w' : World) (e : Ending) : Prop :=
  ∃ X m d, e = .returned (.tuple #[.slice X m d, .bool (takG l i).s, .int .i64 (takE l i)]) ∧ Bs w' X m (takG l i).b ∧ m ≤ d ∧ d ≤ 9223372036854775807 ∧ (X = none → m = 0) ∧ Vd w V X d ∧ Rg w' r TT oo ctx (fun k => V k ∨ w.heap.size ≤ k) (takS l i) ∧ Fu (fun k => k = r) w w'
section
variable (w : World)
set_option maxRecDepth 100000 in
set_option maxHeartbeats 8000000 in
theorem rtake_ (r : Nat) (TT : TypeId) (oo : Nat) (ctx : Value → Array Value) (hHo : Hole oo ctx) (V : Nat → Prop) (l : List Gr) (h : Rg w r TT oo ctx V l) (hV : ∀ k, V k → k < w.heap.size) (hVr : ¬ V r) (i : Int) :
    Calls Try.prog 39 #[.pointer (some ⟨r, oo, none⟩), .int .i64 i] w fun e w' => RTakA r TT oo ctx V l i w w' e := by
  obtain ⟨i0, hi0', hz0, hz1, hz2⟩ := rgram_info
  have Hz := Lib.hid hz2
  clear hz2
  obtain ⟨A, n, c, L, rfl, hX⟩ := h
  have hRh := rhas_ w r TT oo ctx hHo V A n c L hX i
  by_cases hi : hasB (L.map (·.2)) i = true
  · obtain ⟨t1, t2, t3⟩ := take_of hi
    rw [hi] at hRh
    have hi2 := has_iff.1 hi
    rw [List.length_map, ← hX.len] at hi2
    obtain ⟨k, rfl⟩ := Int.eq_ofNat_of_zero_le hi2.1
    have hk : k < n := by omega
    obtain ⟨b, o, X, m, d, x, rfl, hLk, e0, e1, hbx, hmd, hd, hmb, hVX⟩ := hX.elem hk
    have hil : k < L.length := by rw [← hX.len]; exact hk
    rw [getG_map hil, show L[k].2 = x by rw [List.getElem?_eq_getElem hil] at hLk; injection hLk with hLk; rw [hLk]] at t2
    rw [Int.toNat_natCast, ← List.eraseIdx_eq_take_drop_succ, erase_map] at t3
    have HT := Lib.hid (show takE (L.map (·.2)) (k : Int) = 0 ∧ takG (L.map (·.2)) (k : Int) = x ∧ takS (L.map (·.2)) (k : Int) = (L.eraseIdx k).map (·.2) from ⟨t1, t2, t3⟩)
    have c0 := hX.blk.cell (j := oo) (u := .slice (some ⟨b, o, none⟩) n c) (hHo.at_ _)
    have hnc := hX.le
    have hcc := hX.cap
    have hn256 := hX.few
    have hrl := hX.blk.lt
    have hbV := hX.rowV _ rfl
    simp only at hbV
    -- the copy of the element
    have hba : Below w.heap.size w (w.alloc (.cells #[.slice X m d, .bool x.s] 98)) := (Below.refl _ _).alloc (Nat.le_refl _) _
    have hm0 : Blk (w.alloc (.cells #[.slice X m d, .bool x.s] 98)) w.heap.size 98 #[.slice X m d, .bool x.s] := Blk.new w _ _ rfl
    have hXa := hX.keep hba
    have c0a := hXa.blk.cell (j := oo) (u := .slice (some ⟨b, o, none⟩) n c) (hHo.at_ _)
    have hrow := hXa.row
    have hlen := Lib.hid hX.len
    have hrow1 : Rd (w.alloc (.cells #[.slice X m d, .bool x.s] 98)) (some ⟨b, o, none⟩) 2 k (gvs (L.take k)) := by have := hrow.take (k := k) (by omega); rwa [gvs_take] at this
    have hrow2 := hrow.drop (k := k + 1) (cap := c) (by omega) hnc
    rw [gvs_drop] at hrow2
    have hone1 : ∀ u ∈ gvs (L.take k), u.oneCell' = true := gvs_one (fun p hp => hX.forms p (List.mem_of_mem_take hp))
    have hone2 : ∀ u ∈ gvs (L.drop (k + 1)), u.oneCell' = true := gvs_one (fun p hp => hX.forms p (List.mem_of_mem_drop hp))
    have hsa : (w.alloc (.cells #[.slice X m d, .bool x.s] 98)).heap.size = w.heap.size + 1 := by simp
    have hbxa := hbx.below hba
    have HXa := Lib.hid hXa
    have HTX := Lib.hid hX
    have HIL := Lib.hid hil
    have k1 : (k : Int) < (n : Int) := by omega
    have k2 : (0 : Int) ≤ (k : Int) := by omega
    have k3 : k ≤ c := by omega
    have k4 : (k : Int) ≤ (c : Int) := by omega
    have k5 : (k : Int) + 1 ≤ (n : Int) := by omega
    have k6 : (0 : Int) ≤ (k : Int) + 1 := by omega
    have k7 : ((k : Int) + 1).toNat = k + 1 := by omega
    have k8 : k + 1 ≤ c := by omega
    have k9 : k + 1 ≤ n := by omega
    have k10 : (k : Int) + 1 ≤ (c : Int) := by omega
    have e8 : IntKind.i64.wrap ((k : Int) + 1) = (k : Int) + 1 := IntWalk.i64_in _ (by omega)
    have hcs : c = k + 1 ∨ ¬ c = k + 1 := Decidable.em _
    clear hi hi2 t1 t2 t3 hX hXa hrow hbx hLk hil
    rcases hcs with hce | hce
    · rw [if_pos hce] at hrow2
      obtain rfl : n = k + 1 := by omega
      subst hce
      have k4' : (k : Int) ≤ (k : Int) + 1 := by omega
      have k3' : k ≤ k + 1 := by omega
      have Hdrop := Lib.hid (show L.drop (k + 1) = [] from List.drop_of_length_le (by have := hlen.out; omega))
      go_enter Try.func39, Try.ntmps39
      go_wp2_with fail
      refine hRh.mono ?_
      rintro e w' ⟨rfl, rfl⟩
      go_wp2_with fail
      obtain ⟨wa, hwa⟩ : ∃ wa, w.alloc (.cells #[.slice X m d, .bool x.s] 98) = wa := ⟨_, rfl⟩
      rw [hwa] at hba hm0 c0a hrow1 hrow2 hsa hbxa HXa ⊢
      have HBA := Lib.hid hba
      clear hwa
      go_region_law (first
        | (refine step_app _ rfl (.const (.slice none 0 0)) (.tmp 25) _ rfl wa.heap.size 98 i0 _ 2 32 Try.underlying61 hi0' hz0 hz1 Hz.out rfl (by omega) (.slice none 0 0) 0 [] rfl (own_nil _ _ _ _) (some ⟨b, o, none⟩) k (k + 1) (gvs (L.take k)) rfl (fun e => by cases e) (show Rd wa.drew _ 2 k _ from hrow1) hone1 (by unfold maxLen; omega) (by omega) (Nat.le_refl _) ?_
           intro vA wA hownA hgA hatA
           obtain ⟨AA, cA, rfl, hcA, hmA, haA⟩ := own_form hownA
           simp only [Nat.zero_add, List.nil_append] at hownA hcA haA ⊢
           have hgA' : wa.grownBy wA none := undrew hgA
           have hsA : wa.heap.size ≤ wA.heap.size := hgA'.size
           have c0A : wA.cell? ⟨r, oo, none⟩ = some (.slice (some ⟨b, o, none⟩) (k + 1) (k + 1)) := hgA'.cell c0a (fun e => by cases e)
           have hrow2A := hsA)
        | (refine step_app _ rfl (.tmp 26) (.tmp 33) _ rfl wa.heap.size 98 i0 _ 2 32 Try.underlying61 hi0' hz0 hz1 Hz.out rfl (by omega) (.slice AA k cA) k (gvs (L.take k)) rfl hownA (some ⟨b, o, none⟩) 0 0 [] rfl (fun e => by cases e) Rd.nil (by simp) (by unfold maxLen; omega) (by omega) hsA ?_
           intro vD wD hownD hgD hatD
           simp only [Nat.add_zero, List.append_nil] at hownD
           obtain ⟨AD, cD, rfl, hcD, hmD, haD⟩ := own_form hownD
           have hgD' : wa.grownBy wD none := grown_step hgA' hgD (fun j e => .inl (hownA.lt j e).1)
           have kD : wD.cell? ⟨r, oo, none⟩ = some (.slice (some ⟨b, o, none⟩) (k + 1) (k + 1)) := hgD'.cell c0a (fun e => by cases e)
           have fD := (HXa.out.blk.grown hgD' (fun e => by cases e)).free oo))
      all_goals (
        have hput := HXa.out.put hHo (V' := fun k => V k ∨ w.heap.size ≤ k) hgD' (v := .slice AD (k) cD) (n' := k) (L' := L.eraseIdx k) (by rw [List.eraseIdx_eq_take_drop_succ, Hdrop.out, List.append_nil]; exact hownD) (Nat.le_refl _) (by rw [List.length_eraseIdx_of_lt HIL.out, ← hlen.out]; omega) (by omega) (fun j e => .inl e) (fun j e => .inr (by omega)) (fun p hp => .inl (List.mem_of_mem_eraseIdx hp)) hVr
        have hset := grown_setCell wD ⟨r, oo, none⟩ (.slice AD (k) cD)
        have hmF := (hm0.grown hgD' (fun e => by cases e)).grown hset (fun e => by injection e with e; simp only at e; omega)
        have m0 := hmF.cell (j := 0) (u := .slice X m d) rfl
        have m1 := hmF.cell (j := 1) (u := .bool x.s) rfl
        have hbF : Bs (wD.setCell ⟨r, oo, none⟩ (.slice AD (k) cD)) X m x.b := (hbxa.grown hgD' (fun a ha e => by cases e)).grown hset (fun a ha e => by injection e with e; exact hVr ((show a.block = r from e) ▸ (hVX a ha).1))
        have HP := Lib.hid hput
        have HBF := Lib.hid hbF
        clear hput hbF hset hmF hownA hgA' hgD' hownD hgD hatD hrow1 hrow2 hone1 hone2 hm0 hba hrow2A kD fD c0A c0a
        go_wp2_with fail
        go_quiet (fail)
        go_wp2
        go_ret3
        unfold RTakA
        rw [HT.out.1, HT.out.2.1, HT.out.2.2]
        refine ⟨X, m, d, rfl, HBF.out, hmd, hd, (fun e => HBF.out.zero e), hVX, HP.out.1.drewN _, (Fu.ofBelow HBA.out).then (HP.out.2.drewN _) (fun j e => .inl e)⟩)
    · rw [if_neg hce] at hrow2
      simp only [Option.map_some, add_plain] at hrow2
      go_enter Try.func39, Try.ntmps39
      go_wp2_with fail
      refine hRh.mono ?_
      rintro e w' ⟨rfl, rfl⟩
      go_wp2_with fail
      obtain ⟨wa, hwa⟩ : ∃ wa, w.alloc (.cells #[.slice X m d, .bool x.s] 98) = wa := ⟨_, rfl⟩
      rw [hwa] at hba hm0 c0a hrow1 hrow2 hsa hbxa HXa ⊢
      have HBA := Lib.hid hba
      clear hwa
      go_region_law (first
        | (refine step_app _ rfl (.const (.slice none 0 0)) (.tmp 25) _ rfl wa.heap.size 98 i0 _ 2 32 Try.underlying61 hi0' hz0 hz1 Hz.out rfl (by omega) (.slice none 0 0) 0 [] rfl (own_nil _ _ _ _) (some ⟨b, o, none⟩) k c (gvs (L.take k)) rfl (fun e => by cases e) (show Rd wa.drew _ 2 k _ from hrow1) hone1 (by unfold maxLen; omega) (by omega) (Nat.le_refl _) ?_
           intro vA wA hownA hgA hatA
           obtain ⟨AA, cA, rfl, hcA, hmA, haA⟩ := own_form hownA
           simp only [Nat.zero_add, List.nil_append] at hownA hcA haA ⊢
           have hgA' : wa.grownBy wA none := undrew hgA
           have hsA : wa.heap.size ≤ wA.heap.size := hgA'.size
           have c0A : wA.cell? ⟨r, oo, none⟩ = some (.slice (some ⟨b, o, none⟩) n c) := hgA'.cell c0a (fun e => by cases e)
           have hrow2A := rd_keep hrow2 hgA')
        | (refine step_app _ rfl (.tmp 26) (.tmp 33) _ rfl wa.heap.size 98 i0 _ 2 32 Try.underlying61 hi0' hz0 hz1 Hz.out rfl (by omega) (.slice AA k cA) k (gvs (L.take k)) rfl hownA (some ⟨b, o + (k + 1) * 2, none⟩) (n - (k + 1)) (c - (k + 1)) (gvs (L.drop (k + 1))) rfl (fun e => by cases e) hrow2A hone2 (by unfold maxLen; omega) (by omega) hsA ?_
           intro vD wD hownD hgD hatD
           obtain ⟨AD, cD, rfl, hcD, hmD, haD⟩ := own_form hownD
           have hgD' : wa.grownBy wD none := grown_step hgA' hgD (fun j e => .inl (hownA.lt j e).1)
           have kD : wD.cell? ⟨r, oo, none⟩ = some (.slice (some ⟨b, o, none⟩) n c) := hgD'.cell c0a (fun e => by cases e)
           have fD := (HXa.out.blk.grown hgD' (fun e => by cases e)).free oo))
      all_goals (
        have hput := HXa.out.put hHo (V' := fun k => V k ∨ w.heap.size ≤ k) hgD' (v := .slice AD (k + (n - (k + 1))) cD) (n' := k + (n - (k + 1))) (L' := L.eraseIdx k) (by rw [List.eraseIdx_eq_take_drop_succ, gvs_app]; exact hownD) (Nat.le_refl _) (by rw [List.length_eraseIdx_of_lt HIL.out, ← hlen.out]; omega) (by omega) (fun j e => .inl e) (fun j e => .inr (by omega)) (fun p hp => .inl (List.mem_of_mem_eraseIdx hp)) hVr
        have hset := grown_setCell wD ⟨r, oo, none⟩ (.slice AD (k + (n - (k + 1))) cD)
        have hmF := (hm0.grown hgD' (fun e => by cases e)).grown hset (fun e => by injection e with e; simp only at e; omega)
        have m0 := hmF.cell (j := 0) (u := .slice X m d) rfl
        have m1 := hmF.cell (j := 1) (u := .bool x.s) rfl
        have hbF : Bs (wD.setCell ⟨r, oo, none⟩ (.slice AD (k + (n - (k + 1))) cD)) X m x.b := (hbxa.grown hgD' (fun a ha e => by cases e)).grown hset (fun a ha e => by injection e with e; exact hVr ((show a.block = r from e) ▸ (hVX a ha).1))
        have HP := Lib.hid hput
        have HBF := Lib.hid hbF
        clear hput hbF hset hmF hownA hgA' hgD' hownD hgD hatD hrow1 hrow2 hone1 hone2 hm0 hba hrow2A kD fD c0A c0a
        go_wp2_with fail
        go_quiet (fail)
        go_wp2
        go_ret3
        unfold RTakA
        rw [HT.out.1, HT.out.2.1, HT.out.2.2]
        refine ⟨X, m, d, rfl, HBF.out, hmd, hd, (fun e => HBF.out.zero e), hVX, HP.out.1.drewN _, (Fu.ofBelow HBA.out).then (HP.out.2.drewN _) (fun j e => .inl e)⟩)
  · have hi : hasB (L.map (·.2)) i = false := by simpa using hi
    obtain ⟨t1, t2, t3⟩ := take_no hi
    rw [hi] at hRh
    have HT := Lib.hid (show takE (L.map (·.2)) i = 9 ∧ takG (L.map (·.2)) i = zG ∧ takS (L.map (·.2)) i = L.map (·.2) from ⟨t1, t2, t3⟩)
    clear t1 t2 t3 hi
    go_enter Try.func39, Try.ntmps39
    go_wp2_with fail
    refine hRh.mono ?_
    rintro e w' ⟨rfl, rfl⟩
    go_wp2
    go_ret3
    unfold RTakA
    rw [HT.out.1, HT.out.2.1, HT.out.2.2]
    exact ⟨none, 0, 0, rfl, Bs.nil, Nat.le_refl _, by omega, fun _ => rfl, ⟨fun a e => (by cases e), fun _ => rfl⟩, ⟨A, n, c, L, rfl, hX.sub (fun k hk _ => .inl hk)⟩, Fu.refl _ _⟩
end
end Ses
end Go.Proofs.Ytlmaelbalmjlbaa

set_option linter.all false
namespace Go.Proofs.Ytlmaelbalmjlbaa
open Go.RowKit
namespace Ses
open Net
section
variable (w : World)
set_option maxRecDepth 100000 in
set_option maxHeartbeats 8000000 in
theorem rtwice_ (r : Nat) (TT : TypeId) (oo : Nat) (ctx : Value → Array Value) (hHo : Hole oo ctx) (V : Nat → Prop) (l : List Gr) (h : Rg w r TT oo ctx V l) (hV : ∀ k, V k → k < w.heap.size) (hVr : ¬ V r) (i : Int) :
    Calls Try.prog 40 #[.pointer (some ⟨r, oo, none⟩), .int .i64 i] w fun e w' => e = .returned (.int .i64 (twiE l i)) ∧ Rg w' r TT oo ctx (fun k => V k ∨ w.heap.size ≤ k) (twiS l i) ∧ Fu (fun k => k = r) w w' := by
  obtain ⟨i0, hi0', hz0, hz1, hz2⟩ := rgram_info
  have Hz := Lib.hid hz2
  clear hz2
  obtain ⟨A, n, c, L, rfl, hX⟩ := h
  have hRh := rhas_ w r TT oo ctx hHo V A n c L hX i
  have c0 := hX.blk.cell (j := oo) (u := .slice A n c) (hHo.at_ _)
  by_cases hi : hasB (L.map (·.2)) i = true
  · obtain ⟨t1, t2⟩ := twice_of hi
    rw [hi] at hRh
    have hi2 := has_iff.1 hi
    rw [List.length_map, ← hX.len] at hi2 t1 t2
    obtain ⟨k, rfl⟩ := Int.eq_ofNat_of_zero_le hi2.1
    have hk : k < n := by omega
    by_cases hf : 256 ≤ n
    · rw [if_pos hf] at t1 t2
      have HT := Lib.hid t1
      have HS := Lib.hid t2
      have hfi : (256 : Int) ≤ (n : Int) := by omega
      clear t1 t2 hi hi2
      go_enter Try.func40, Try.ntmps40
      go_wp2_with fail
      refine hRh.mono ?_
      rintro e w' ⟨rfl, rfl⟩
      go_wp2
      go_ret
      rw [HT.out, HS.out]
      exact ⟨rfl, ⟨A, n, c, L, rfl, hX.sub (fun k hk _ => .inl hk)⟩, Fu.refl _ _⟩
    · rw [if_neg hf] at t1 t2
      obtain ⟨b, o, X, m, d, x, rfl, hLk, e0, e1, hbx, hmd, hd, hmb, hVX⟩ := hX.elem hk
      have hil : k < L.length := by rw [← hX.len]; exact hk
      rw [getG_map hil, show L[k].2 = x by rw [List.getElem?_eq_getElem hil] at hLk; injection hLk with hLk; rw [hLk]] at t2
      have hmem : ((.slice X m d, x) : Value × Gr) ∈ L := List.mem_of_getElem? hLk
      have HT := Lib.hid t1
      have HS := Lib.hid (show twiS (L.map (·.2)) (k : Int) = (L ++ [((Value.slice X m d, x) : Value × Gr)]).map (·.2) by rw [t2, List.map_append]; rfl)
      have hnc := hX.le
      have hcc := hX.cap
      have hrl := hX.blk.lt
      have hrow := hX.row
      have hone := gvs_one hX.forms
      have HX := Lib.hid hX
      have hbl : b < w.heap.size := cell_lt e0
      have k1 : (k : Int) < (n : Int) := by omega
      have k2 : (0 : Int) ≤ (k : Int) := by omega
      have hfi : ¬ (256 : Int) ≤ (n : Int) := by omega
      have hn256 : n < 256 := by omega
      have c0B : (w.drew.alloc (.cells #[.slice X m d, .bool x.s] 98)).cell? ⟨r, oo, none⟩ = some (.slice (some ⟨b, o, none⟩) n c) := (World.grownBy_alloc w.drew (.cells #[.slice X m d, .bool x.s] 98) none).cell c0 (fun e => by cases e)
      have hrowB : Rd (w.drew.alloc (.cells #[.slice X m d, .bool x.s] 98)) (some ⟨b, o, none⟩) 2 n (gvs L) := Rd.alloc (show Rd w.drew _ 2 n _ from hrow) _
      have hsB : w.heap.size ≤ (w.drew.alloc (.cells #[.slice X m d, .bool x.s] 98)).heap.size := by simp
      have hgB : w.grownBy (w.drew.alloc (.cells #[.slice X m d, .bool x.s] 98)) none := undrew (World.grownBy_alloc w.drew _ none)
      have hnewB : Rd (w.drew.alloc (.cells #[.slice X m d, .bool x.s] 98)) (some ⟨w.heap.size, 0, none⟩) 2 1 (gv (.slice X m d, x)) := Rd.new w.drew _ _ (0, 0) (sz := 2) (n := 1) rfl
      clear hi hi2 t1 t2 hX hbx hLk hil
      go_enter Try.func40, Try.ntmps40
      go_wp2_with fail
      refine hRh.mono ?_
      rintro e w' ⟨rfl, rfl⟩
      go_wp2_with fail
      go_region_law (first
        | (refine step_app _ rfl (.const (.slice none 0 0)) (.tmp 19) _ rfl w.heap.size 98 i0 _ 2 32 Try.underlying61 hi0' hz0 hz1 Hz.out rfl (by omega) (.slice none 0 0) 0 [] rfl (own_nil _ _ _ _) (some ⟨b, o, none⟩) n c (gvs L) rfl (fun e => by cases e) (show Rd w.drew _ 2 n _ from hrow) hone (by unfold maxLen; omega) (by omega) (Nat.le_refl _) ?_
           intro vA wA hownA hgA hatA
           obtain ⟨AA, cA, rfl, hcA, hmA, haA⟩ := own_form hownA
           simp only [Nat.zero_add, List.nil_append] at hownA hcA haA ⊢
           have hgA' : w.grownBy wA none := undrew hgA
           have hsA : w.heap.size ≤ wA.heap.size := hgA'.size
           have c0A : wA.cell? ⟨r, oo, none⟩ = some (.slice (some ⟨b, o, none⟩) n c) := hgA'.cell c0 (fun e => by cases e)
           have e0A : wA.cell? ⟨b, o + k * 2, none⟩ = some (.slice X m d) := hgA'.cell e0 (fun e => by cases e)
           have e1A : wA.cell? ⟨b, o + k * 2 + 1, none⟩ = some (.bool x.s) := hgA'.cell e1 (fun e => by cases e)
           have hown1 : (wA.alloc (.cells #[.slice X m d, .bool x.s] 98)).ownsRow w.heap.size 98 2 (.slice AA n cA) n (gvs L) := own_keep hownA ((Below.refl _ _).alloc (Nat.le_refl _) _)
           have hnew1 : Rd (wA.alloc (.cells #[.slice X m d, .bool x.s] 98)) (some ⟨wA.heap.size, 0, none⟩) 2 1 (gv (.slice X m d, x)) := Rd.new wA _ _ (0, 0) (sz := 2) (n := 1) rfl
           have hb1 : w.heap.size ≤ (wA.alloc (.cells #[.slice X m d, .bool x.s] 98)).heap.size := by simp; omega
           have hg1 := hgA'.trans (World.grownBy_alloc wA (.cells #[.slice X m d, .bool x.s] 98) none))
        | (refine step_app _ rfl (.const (.slice none 0 0)) (.tmp 19) _ rfl w.heap.size 98 i0 _ 2 32 Try.underlying61 hi0' hz0 hz1 Hz.out rfl (by omega) (.slice none 0 0) 0 [] rfl (own_nil _ _ _ _) (some ⟨b, o, none⟩) n c (gvs L) rfl (fun e => by cases e) hrowB hone (by unfold maxLen; omega) (by omega) hsB ?_
           intro vA wA hown1 hgA hatA
           obtain ⟨AA, cA, rfl, hcA, hmA, haA⟩ := own_form hown1
           simp only [Nat.zero_add, List.nil_append] at hown1 hcA haA ⊢
           have hg1 : w.grownBy wA none := hgB.trans hgA
           have hb1 : w.heap.size ≤ wA.heap.size := hg1.size
           have hnew1 := rd_keep hnewB hgA)
        | (refine step_app _ rfl (.tmp 20) (.tmp 28) _ rfl w.heap.size 98 i0 _ 2 32 Try.underlying61 hi0' hz0 hz1 Hz.out rfl (by omega) (.slice AA n cA) n (gvs L) rfl hown1 _ 1 1 (gv (.slice X m d, x)) rfl (by simp) hnew1 (gv_one _ _ _ _) (by unfold maxLen; omega) (by omega) hb1 ?_
           intro vD wD hownD hgD hatD
           obtain ⟨AD, cD, rfl, hcD, hmD, haD⟩ := own_form hownD
           have hgD' : w.grownBy wD none := grown_step hg1 hgD (fun j e => .inl (hown1.lt j e).1)
           have kD : wD.cell? ⟨r, oo, none⟩ = some (.slice (some ⟨b, o, none⟩) n c) := hgD'.cell c0 (fun e => by cases e)
           have fD := (HX.out.blk.grown hgD' (fun e => by cases e)).free oo))
      all_goals (
        have hput := HX.out.put hHo (V' := fun k => V k ∨ w.heap.size ≤ k) hgD' (v := .slice AD (n + 1) cD) (n' := n + 1) (L' := L ++ [(.slice X m d, x)]) (by rw [gvs_snoc]; exact hownD) (Nat.le_refl _) (by rw [List.length_append, List.length_singleton, ← HX.out.len]) (by omega) (fun j e => .inl e) (fun j e => .inr e) (fun p hp => by
          rcases List.mem_append.1 hp with hp | hp
          · exact .inl hp
          · rw [List.mem_singleton.1 hp]; exact .inl hmem) hVr
        have HP := Lib.hid hput
        clear hput hown1 hgD' hownD hgD hatD kD fD
        go_wp2
        go_ret
        rw [HT.out, HS.out]
        exact ⟨rfl, HP.out.1, HP.out.2⟩)
  · have hi : hasB (L.map (·.2)) i = false := by simpa using hi
    obtain ⟨t1, t2⟩ := twice_no hi
    rw [hi] at hRh
    have HT := Lib.hid t1
    have HS := Lib.hid t2
    clear t1 t2 hi
    go_enter Try.func40, Try.ntmps40
    go_wp2_with fail
    refine hRh.mono ?_
    rintro e w' ⟨rfl, rfl⟩
    go_wp2
    go_ret
    rw [HT.out, HS.out]
    exact ⟨rfl, ⟨A, n, c, L, rfl, hX.sub (fun k hk _ => .inl hk)⟩, Fu.refl _ _⟩
end
end Ses
end Go.Proofs.Ytlmaelbalmjlbaa

set_option linter.all false
namespace Go.Proofs.Ytlmaelbalmjlbaa
open Go.RowKit
namespace Ses
open Net
theorem gvs_set {L : List (Value × Gr)} {k : Nat} (hk : k < L.length) (v : Value) (d : List UInt8) (s : Bool) : ((gvs L).set (k * 2) v).set (k * 2 + 1) (.bool s) = gvs (L.set k (v, ⟨d, s⟩)) := by
  have hL : L = L.take k ++ L[k] :: L.drop (k + 1) := by rw [← List.drop_eq_getElem_cons hk, List.take_append_drop]
  have hl : (L.take k).length = k := by rw [List.length_take]; omega
  have e1 : L.set k (v, ⟨d, s⟩) = L.take k ++ (v, ⟨d, s⟩) :: L.drop (k + 1) := by rw [List.set_eq_take_append_cons_drop, if_pos hk]
  rw [e1]
  conv => lhs; rw [hL]
  rw [gvs_app, gvs_cons, gvs_app, gvs_cons, List.set_append_right _ _ (by rw [gvs_len]; omega), gvs_len, hl, Nat.sub_self, List.set_append_right _ _ (by rw [gvs_len]; omega), gvs_len, hl, Nat.add_sub_cancel_left]
  rfl
section
variable (w : World)
set_option maxRecDepth 100000 in
set_option maxHeartbeats 8000000 in
theorem rturn_ (r : Nat) (TT : TypeId) (oo : Nat) (ctx : Value → Array Value) (hHo : Hole oo ctx) (V : Nat → Prop) (l : List Gr) (h : Rg w r TT oo ctx V l) (hV : ∀ k, V k → k < w.heap.size) (hVr : ¬ V r) (i z : Int) (y : UInt8) (hz : -9223372036854775808 ≤ z ∧ z ≤ 9223372036854775807) :
    Calls Try.prog 41 #[.pointer (some ⟨r, oo, none⟩), .int .i64 i, .int .i64 z, .int .u8 (y.toNat : Int)] w fun e w' => e = .returned (.int .i64 (turE l i z y)) ∧ Rg w' r TT oo ctx (fun k => V k ∨ w.heap.size ≤ k) (turS l i z y) ∧ Fu (fun k => k = r) w w' := by
  obtain ⟨i0, hi0', hz0, hz1, hz2⟩ := rgram_info
  have Hz := Lib.hid hz2
  obtain ⟨i1, hi1', hy0', hy1', hy2'⟩ := info_parts info_u8
  have Hy := Lib.hid hy2'
  clear hz2 hy2'
  obtain ⟨A, n, c, L, rfl, hX⟩ := h
  have hRh := rhas_ w r TT oo ctx hHo V A n c L hX i
  have c0 := hX.blk.cell (j := oo) (u := .slice A n c) (hHo.at_ _)
  have cf := hX.blk.free oo
  by_cases hi : hasB (L.map (·.2)) i = true
  · have t1 := turn_at (z := z) (y := y) hi
    rw [hi] at hRh
    have hi2 := has_iff.1 hi
    rw [List.length_map, ← hX.len] at hi2
    obtain ⟨k, rfl⟩ := Int.eq_ofNat_of_zero_le hi2.1
    have hk : k < n := by omega
    obtain ⟨b, o, X, m, d, x, rfl, hLk, e0, e1, hbx, hmd, hd, hmb, hVX⟩ := hX.elem hk
    have hil : k < L.length := by rw [← hX.len]; exact hk
    have hLk2 : L[k] = (.slice X m d, x) := by rw [List.getElem?_eq_getElem hil] at hLk; injection hLk
    rw [getG_map hil, hLk2] at t1
    obtain ⟨dd, xs⟩ := x
    simp only at t1 e1 hbx
    have hdm := hbx.len
    have k1 : (k : Int) < (n : Int) := by omega
    have k2 : (0 : Int) ≤ (k : Int) := by omega
    have hbX : ∀ e, turE (L.map (·.2)) (k : Int) z y = e → ¬ e = 0 → Rg w r TT oo ctx (fun k => V k ∨ w.heap.size ≤ k) (turS (L.map (·.2)) (k : Int) z y) := fun e he h0 => by
      rw [turn_no (by rw [he]; exact h0)]
      exact ⟨_, n, c, L, rfl, hX.sub (fun k hk _ => .inl hk)⟩
    rw [← hdm] at t1
    have hy1 := y.toNat_lt
    cases xs with
    | true =>
      have HT := Lib.hid (show turE (L.map (·.2)) (k : Int) z y = 10 by rw [t1]; rfl)
      have HBX := Lib.hid (hbX 10 HT.out (by decide))
      clear t1 hi hi2 hbX hX hdm hbx hLk hLk2 hil
      go_enter Try.func41, Try.ntmps41
      go_wp2_with fail
      refine hRh.mono ?_
      rintro e w' ⟨rfl, rfl⟩
      go_wp2
      go_ret
      rw [HT.out]
      exact ⟨rfl, HBX.out, Fu.refl _ _⟩
    | false =>
      by_cases h0 : m = 0
      · have HT := Lib.hid (show turE (L.map (·.2)) (k : Int) z y = 1 by rw [t1, h0]; simp)
        have HBX := Lib.hid (hbX 1 HT.out (by decide))
        subst h0
        clear t1 hi hi2 hbX hX hdm hbx hLk hLk2 hil
        go_enter Try.func41, Try.ntmps41
        go_wp2_with fail
        refine hRh.mono ?_
        rintro e w' ⟨rfl, rfl⟩
        go_wp2
        go_ret
        rw [HT.out]
        exact ⟨rfl, HBX.out, Fu.refl _ _⟩
      · have n0 : ¬ (m : Int) = 0 := by omega
        have n0' : ((m : Int) == 0) = false := by simpa using n0
        by_cases h1 : y = 0
        · have HT := Lib.hid (show turE (L.map (·.2)) (k : Int) z y = 1 by rw [t1, h1]; simp)
          have HBX := Lib.hid (hbX 1 HT.out (by decide))
          subst h1
          clear t1 hi hi2 hbX hX hdm hbx hLk hLk2 hil
          go_enter Try.func41, Try.ntmps41
          go_wp2_with fail
          refine hRh.mono ?_
          rintro e w' ⟨rfl, rfl⟩
          go_wp2
          go_ret
          rw [HT.out]
          exact ⟨rfl, HBX.out, Fu.refl _ _⟩
        · have HT := Lib.hid (show turE (L.map (·.2)) (k : Int) z y = 0 by rw [t1]; simp [h0, h1])
          have y0 : ¬ (y.toNat : Int) = 0 := by
            intro e
            exact h1 (UInt8.toNat_inj.1 (by simpa using e))
          have y0' : ((y.toNat : Int) == 0) = false := by simpa using y0
          have hatl := atN_lt (n := m) (by omega) z
          have tb := tmod_bounds z m (by omega)
          obtain ⟨a, ha⟩ : ∃ a, atN m z = a := ⟨_, rfl⟩
          have hat : (z.tmod (m : Int) + m).tmod (m : Int) = (a : Int) := by
            rw [← ha]; unfold atN
            have h2 := Int.tmod_nonneg (m : Int) (show 0 ≤ z.tmod m + m by omega)
            omega
          rw [ha] at hatl
          have had : a < dd.length := by omega
          obtain ⟨t, ht⟩ : ∃ t, z.tmod (m : Int) = t := ⟨_, rfl⟩
          rw [ht] at tb hat
          have w1 : IntKind.i64.wrap t = t := IntWalk.i64_in _ (by omega)
          have w2' : wrap64 (t + (m : Int)) = t + (m : Int) := IntWalk.wrap64_in _ (by omega)
          have a1 : (a : Int) < (m : Int) := by omega
          have a2 : (0 : Int) ≤ (a : Int) := by omega
          have Ht := Lib.hid ht
          have hrow := hX.row
          have hone := gvs_one hX.forms
          have hn256 := hX.few
          have hrl := hX.blk.lt
          have HX := Lib.hid hX
          have HIL := Lib.hid hil
          have HLK := Lib.hid hLk
          obtain ⟨old, hold⟩ : ∃ old, dd[a] = old := ⟨_, rfl⟩
          have hold2 : old.toNat < 256 := UInt8.toNat_lt _
          have hxr := u8_xor_nat _ _ hold2 (show y.toNat < 256 by omega)
          have Hold := Lib.hid (show dd[a]? = some old by rw [List.getElem?_eq_getElem had, hold])
          have Hd' := Lib.hid (show turnB dd z y = dd.set a (old ^^^ y) by
            unfold turnB; rw [← hdm, ha, List.getD, List.getElem?_eq_getElem had, hold]; rfl)
          have Hdm := Lib.hid hdm
          have Ha := Lib.hid ha
          clear t1 hi hi2 hbX hX hdm hLk hLk2 hil ha hold had
          go_enter Try.func41, Try.ntmps41
          go_wp2_with fail
          refine hRh.mono ?_
          rintro e w' ⟨rfl, rfl⟩
          go_wp2_with (first
            | (at_builtin
               refine wpList_app _ rfl (.const (.slice none 0 0)) (.tmp 46) _ rfl w.heap.size 5 i1 _ 1 1 Try.underlying34 hi1' hy0' hy1' Hy.out rfl Nat.one_pos (.slice none 0 0) 0 [] rfl (own_nil _ _ _ _) X m d (bvs dd) rfl (fun h => hbx.zero h) hbx (bvs_one dd) (by unfold maxLen; omega) (by omega) (Nat.le_refl _) ?_
               intro v5 w5 hown5 hg5 hat5
               rw [Nat.zero_add, List.nil_append] at hown5
               obtain ⟨g5, c5, rfl, hg5b, hg5l⟩ := hown5.form (by omega)
               have q0 : w5.cell? ⟨g5, a, none⟩ = some (.int .u8 (old.toNat : Int)) := by
                 rw [hown5.cellAt a (by omega)]
                 simp only [bvs, bv, List.getElem?_map, Hold.out, Option.map_some]
               have q1 := hown5.frozenAt a
               obtain ⟨hst, hgst⟩ := hown5.stored a (.int .u8 ((old.toNat ^^^ y.toNat : Nat) : Int))
               have hset : (bvs dd).set a (.int .u8 ((old.toNat ^^^ y.toNat : Nat) : Int)) = bvs (dd.set a (old ^^^ y)) := by
                 simp only [bvs, List.map_set, bv, UInt8.toNat_xor]
               rw [hset] at hst
               have hg6 : w.grownBy (w5.setCell ⟨g5, a, none⟩ (.int .u8 ((old.toNat ^^^ y.toNat : Nat) : Int))) none := grown_step hg5 hgst (fun j e => by injection e with e; exact .inl (by omega))
               have c06 := hg6.cell c0 (fun e => by cases e)
               have hrow6 := rd_keep hrow hg6
               have hs6 := hg6.size
               have HST := Lib.hid hst
               simp only [Nat.zero_add]
               clear hst hset hgst hown5 hat5 hg5)
            | (at_builtin
               refine wpList_app _ rfl (.const (.slice none 0 0)) (.tmp 64) _ rfl w.heap.size 98 i0 _ 2 32 Try.underlying61 hi0' hz0 hz1 Hz.out rfl (by omega) (.slice none 0 0) 0 [] rfl (own_nil _ _ _ _) (some ⟨b, o, none⟩) n c (gvs L) rfl (fun e => by cases e) hrow6 hone (by unfold maxLen; omega) (by omega) hs6 ?_
               intro v7 w7 hown7 hg7 hat7
               rw [Nat.zero_add, List.nil_append] at hown7
               obtain ⟨g7, c7, rfl, hg7b, hg7l⟩ := hown7.form (by omega)
               have hst7 := own_grown HST.out hg7 (fun j e q => by cases q)
               have hg7' : w.grownBy w7 none := hg6.trans hg7
               have u0 := hown7.frozenAt (k * 2)
               have u1 := hown7.frozenAt (k * 2 + 1)
               have hxs : ∀ j, j < 2 → ∃ u, w7.cell? ⟨g7, k * 2 + j, none⟩ = some u := fun j hj => by
                 have hjl : k * 2 + j < (gvs L).length := by have := hown7.1; omega
                 exact ⟨_, by rw [hown7.cellAt (k * 2 + j) (by omega), List.getElem?_eq_getElem hjl]⟩
               obtain ⟨z0, o0⟩ := hxs 0 (by omega)
               obtain ⟨z1, o1⟩ := hxs 1 (by omega)
               rw [Nat.add_zero] at o0
               have c07 := hg7'.cell c0 (fun e => by cases e)
               have cf7 := (HX.out.blk.grown hg7' (fun e => by cases e)).free oo
               simp only [Nat.zero_add]
               clear hat7 hxs))
          have hG0 := grown_setCell w7 ⟨g7, k * 2, none⟩ (.slice (some ⟨g5, 0, none⟩) m c5)
          have hG1 := grown_setCell (w7.setCell ⟨g7, k * 2, none⟩ (.slice (some ⟨g5, 0, none⟩) m c5)) ⟨g7, k * 2 + 1, none⟩ (.bool true)
          have hG2 := grown_step (grown_step hg7' hG0 (fun j e => by injection e with e; exact .inl (by simp only at e; omega))) hG1 (fun j e => by injection e with e; exact .inl (by simp only at e; omega))
          have hby := own_grown (own_grown hst7 hG0 (fun k' hk' e => own_ne hst7 hown7 (by decide) (g := k') hk' e.symm)) hG1 (fun k' hk' e => own_ne hst7 hown7 (by decide) (g := k') hk' e.symm)
          have hrw := row_cell (row_cell hown7 (.slice (some ⟨g5, 0, none⟩) m c5) (o := k * 2) (by omega)) (.bool true) (o := k * 2 + 1) (by omega)
          rw [gvs_set HIL.out (.slice (some ⟨g5, 0, none⟩) m c5) (dd.set a (old ^^^ y)) true] at hrw
          have hl5 := hby.lt g5 rfl
          have hfrm := own_form hby
          have hput := HX.out.put hHo (V' := fun k => V k ∨ w.heap.size ≤ k) hG2 (v := .slice (some ⟨g7, 0, none⟩) n c7) (n' := n) (L' := L.set k (.slice (some ⟨g5, 0, none⟩) m c5, (⟨dd.set a (old ^^^ y), true⟩ : Gr))) hrw (Nat.le_refl _) (by rw [List.length_set]; exact HX.out.len) (by omega) (fun j e => .inl e) (fun j e => .inr e) (fun p hp => by
            rcases List.mem_or_eq_of_mem_set hp with hp | rfl
            · exact .inl hp
            · obtain ⟨A', c', e, q1, q2, q3⟩ := hfrm
              injection e with e1 e2 e3
              refine .inr ⟨_, _, _, rfl, bs_own hby, by rw [e3]; exact q1, by rw [e3]; exact Nat.le_trans q2 (by unfold maxLen; omega), by omega, fun a' ea => ?_, fun e => by cases e⟩
              injection ea with ea
              subst ea
              exact ⟨.inr hl5.1, by simp only; omega, hl5.2⟩) hVr
          have HP := Lib.hid hput
          clear hput hrw hby
          go_ret
          rw [HT.out]
          refine ⟨rfl, ?_, HP.out.2⟩
          have h := HP.out.1
          unfold turS
          rw [if_pos HT.out, Int.toNat_natCast, getG_map HIL.out]
          have hp : L[k]'HIL.out = (.slice X m d, (⟨dd, false⟩ : Gr)) := by
            have q := HLK.out
            rw [List.getElem?_eq_getElem HIL.out] at q
            injection q
          rw [hp]
          simp only
          rw [Hd'.out]
          rw [List.map_set] at h
          exact h
  · have hi : hasB (L.map (·.2)) i = false := by simpa using hi
    rw [hi] at hRh
    have HT := Lib.hid (turn_none (z := z) (y := y) hi)
    have HS := Lib.hid (turn_no (l := L.map (·.2)) (i := i) (z := z) (y := y) (by rw [HT.out]; decide))
    clear hi
    go_enter Try.func41, Try.ntmps41
    go_wp2_with fail
    refine hRh.mono ?_
    rintro e w' ⟨rfl, rfl⟩
    go_wp2
    go_ret
    rw [HT.out, HS.out]
    exact ⟨rfl, ⟨A, n, c, L, rfl, hX.sub (fun k hk _ => .inl hk)⟩, Fu.refl _ _⟩
end
end Ses
end Go.Proofs.Ytlmaelbalmjlbaa
