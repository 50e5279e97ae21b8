/- Layer 11: what the statements share: records that a berth does not lie among; small, alive. -/
import Derived.Test.YtganoklclnbjkaaLanX
import Derived.Test.YtganoklclnbjkaaLanW
set_option linter.all false
namespace Go.Proofs.Ytganoklclnbjkaa
open Go.RowKit
namespace Lan
open Str (Rec mayB opOf FitR Rdt Rcl RC ra rv rv8 rvs oa k4 k8 rc_blk rc_of bldL)
open Blo (I64 apL apE GotN AnsN)
/-- The slice value '.slice A n _' reads as the records l, and nothing of it lies in block b. -/
structure Rfb (w : World) (b : Nat) (A : Option Addr) (n : Nat) (l : List Rec) : Prop where
  len : n = l.length
  each : ∀ k (hk : k < l.length), ∃ bb o X m c, A = some ⟨bb, o, none⟩ ∧ bb ≠ b ∧ (∀ j u, (rv l[k] (.slice X m c))[j]? = some u → w.cell? ⟨bb, o + k * 8 + j, none⟩ = some u) ∧ Rdt w l[k] X m c ∧ (∀ a, X = some a → 0 < m → a.block ≠ b)
theorem Rfb.below {w w' : World} {b : Nat} {A : Option Addr} {n : Nat} {l : List Rec} (h : Rfb w b A n l) (hb : Below w.heap.size w w') : Rfb w' b A n l :=
  ⟨h.len, fun k hk => by
    obtain ⟨bb, o, X, m, c, e, hne, hc, hd, hX⟩ := h.each k hk
    exact ⟨bb, o, X, m, c, e, hne, fun j u hu => (hb.cell (cell_lt (hc j u hu))).trans (hc j u hu), hd.below hb, hX⟩⟩
theorem Rfb.grown {w w' : World} {b : Nat} {A : Option Addr} {n : Nat} {l : List Rec} (h : Rfb w b A n l) (hg : w.grownBy w' (some b)) : Rfb w' b A n l :=
  ⟨h.len, fun k hk => by
    obtain ⟨bb, o, X, m, c, e, hne, hc, hd, hX⟩ := h.each k hk
    refine ⟨bb, o, X, m, c, e, hne, fun j u hu => ?_, rdt_grown hd hg (fun a ha hm e => hX a ha hm (by injection e)), hX⟩
    have h1 := hc j u hu
    have h2 := hg.block bb (cell_lt h1) (fun e => hne (by injection e))
    rw [World.cell?_of_block h2]
    exact h1⟩
theorem Rfb.at_ {w : World} {b : Nat} {A : Option Addr} {n : Nat} {l : List Rec} (h : Rfb w b A n l) {k : Nat} (hk : k < n) :
    ∃ bb o X m c x, A = some ⟨bb, o, none⟩ ∧ l[k]? = some x ∧ RC w bb (o + k * 8) x (.slice X m c) ∧ Rdt w x X m c := by
  have hl : k < l.length := by have := h.len; omega
  obtain ⟨bb, o, X, m, c, e, _, hc, hd, _⟩ := h.each k hl
  exact ⟨bb, o, X, m, c, l[k], e, List.getElem?_eq_getElem hl, rc_of hc, hd⟩
theorem Rw.rfb {w : World} {base b n c : Nat} {A : Option Addr} {L : List (Rec × Value)} (h : Rw w base (.slice A n c) n L) (hb : base ≤ b) (hv : ∀ a, A = some a → a.block ≠ b) : Rfb w b A n (L.map Prod.fst) := by
  refine ⟨by rw [List.length_map]; exact h.len, fun k hk => ?_⟩
  have hk' : k < L.length := by simpa using hk
  have hmem := List.getElem_mem hk'
  obtain ⟨X, m, c', e, hd, hX⟩ := h.data _ hmem
  have hrd := rd_own h.row
  have g : ∀ j (u : Value), (rv8 L[k])[j]? = some u → ∃ b o, A = some ⟨b, o, none⟩ ∧ w.cell? ⟨b, o + k * 8 + j, none⟩ = some u := fun j u hu => by
    have hj : j < 8 := by have := (List.getElem?_eq_some_iff.1 hu).1; simpa using this
    obtain ⟨b, o, e, hc⟩ := hrd.2 (k * 8 + j) u (by rw [Str.rvs_at hk' hj]; exact hu)
    exact ⟨b, o, e, by rw [Nat.add_assoc]; exact hc⟩
  obtain ⟨bb, o, eA, _⟩ := g 0 _ rfl
  simp only [List.getElem_map]
  refine ⟨bb, o, X, m, c', eA, hv _ eA, fun j u hu => ?_, hd, fun a ha hm => by have := hX a ha hm; omega⟩
  obtain ⟨b', o', e', hc⟩ := g j u (by unfold rv8; rw [e]; exact hu)
  rw [eA] at e'
  injection e' with e'
  injection e' with e1 e2
  subst e1 e2
  exact hc
/-! ### small -/
def sH : Rec := ⟨1, 0, 1, 0, 0, 0, 4, []⟩
def sW : Rec := ⟨2, 0, 0, 0, 0, 2, 0, [5]⟩
def sT : Rec := ⟨4, 0, 0, 0, 0, 0, 1, []⟩
theorem sH_fit : FitR sH := ⟨i64s (by decide) (by decide), i64s (by decide) (by decide), i64s (by decide) (by decide), i64s (by decide) (by decide), i64s (by decide) (by decide), i64s (by decide) (by decide), i64s (by decide) (by decide)⟩
theorem sW_fit : FitR sW := ⟨i64s (by decide) (by decide), i64s (by decide) (by decide), i64s (by decide) (by decide), i64s (by decide) (by decide), i64s (by decide) (by decide), i64s (by decide) (by decide), i64s (by decide) (by decide)⟩
theorem sT_fit : FitR sT := ⟨i64s (by decide) (by decide), i64s (by decide) (by decide), i64s (by decide) (by decide), i64s (by decide) (by decide), i64s (by decide) (by decide), i64s (by decide) (by decide), i64s (by decide) (by decide)⟩
abbrev smA (D : Nat) : Array Value := #[.int .i64 1, .int .i64 0, .int .i64 1, .int .i64 0, .int .i64 0, .int .i64 0, .int .i64 4, .slice none 0 0, .int .i64 2, .int .i64 0, .int .i64 0, .int .i64 0, .int .i64 0, .int .i64 2, .int .i64 0, .slice (some ⟨D, 0, none⟩) 1 1, .int .i64 4, .int .i64 0, .int .i64 0, .int .i64 0, .int .i64 0, .int .i64 0, .int .i64 1, .slice none 0 0]
abbrev smW (w : World) : World := (w.alloc (.cells #[.int .u64 5] 62)).alloc (.cells (smA w.heap.size) 29)
theorem smW_below (w : World) : Below w.heap.size w (smW w) := ((Below.refl _ _).alloc (Nat.le_refl _) _).alloc (by simp) _
theorem sW_dat (w : World) : Rdt (smW w) sW (some ⟨w.heap.size, 0, none⟩) 1 1 := by
  have h1 : Ns (w.alloc (.cells #[.int .u64 5] 62)) (some ⟨w.heap.size, 0, none⟩) 1 sW.d := Ns.new w [5] (by simp) _ rfl rfl rfl
  exact ⟨h1.below ((Below.refl _ _).alloc (Nat.le_refl _) _), fun h => (by cases h), Nat.le_refl _, by omega, by omega, sW_fit⟩
theorem small_rfb (w : World) {b : Nat} (hb : b < w.heap.size) : Rfb (smW w) b (some ⟨w.heap.size + 1, 0, none⟩) 3 [sH, sW, sT] := by
  have hn : Blk (smW w) (w.heap.size + 1) 29 (smA w.heap.size) := Blk.new (w.alloc _) _ _ (by simp)
  refine ⟨rfl, fun k hk => ?_⟩
  match k, hk with
  | 0, _ => exact ⟨_, 0, none, 0, 0, rfl, by omega, fun j u hu => hn.cell (by rw [Nat.zero_mul, Nat.zero_add]; match j, hu with | 0, h | 1, h | 2, h | 3, h | 4, h | 5, h | 6, h | 7, h => exact h), rdt_nil _ _ rfl sH_fit, fun a ha => by cases ha⟩
  | 1, _ => exact ⟨_, 0, some ⟨w.heap.size, 0, none⟩, 1, 1, rfl, by omega, fun j u hu => hn.cell (by match j, hu with | 0, h | 1, h | 2, h | 3, h | 4, h | 5, h | 6, h | 7, h => exact h), sW_dat w, fun a ha _ => by injection ha with ha; subst ha; simp only; omega⟩
  | 2, _ => exact ⟨_, 0, none, 0, 0, rfl, by omega, fun j u hu => hn.cell (by match j, hu with | 0, h | 1, h | 2, h | 3, h | 4, h | 5, h | 6, h | 7, h => exact h), rdt_nil _ _ rfl sT_fit, fun a ha => by cases ha⟩
/-- The state behind so many of its records. -/
def sR : Nat → Rec | 0 => sH | 1 => sW | _ => sT
def sk : Nat → BS | 0 => newS 0 0 4 | k + 1 => takS (sk k) (k : Int) (sR k)
theorem sk_ok0 : takE (sk 0) 0 sH = 0 := by decide +kernel
theorem sk_ok1 : takE (sk 1) 1 sW = 0 := by decide +kernel
theorem sk_ok2 : takE (sk 2) 2 sT = 0 := by decide +kernel
theorem sk_n : (sk 3).n = 4 := by decide +kernel
theorem sk_num : (sk 3).num = 1 := by decide +kernel
theorem sk_vol : (sk 3).vol = [0, 0, 5, 0] := by decide +kernel
theorem sk_take {k : Nat} (hk : k < 3) : takE (sk k) (k : Int) (sR k) = 0 := by
  match k, hk with
  | 0, _ => exact sk_ok0
  | 1, _ => exact sk_ok1
  | 2, _ => exact sk_ok2
theorem sR_at {k : Nat} {x : Rec} (h : [sH, sW, sT][k]? = some x) : x = sR k := by
  match k, h with
  | 0, h => injection h with h; exact h.symm
  | 1, h => injection h with h; exact h.symm
  | 2, h => injection h with h; exact h.symm
section
variable (w : World)
set_option maxRecDepth 100000 in
theorem small_ : Calls Try.prog 20 #[] w fun e w' => e = .returned (.slice (some ⟨w.heap.size + 1, 0, none⟩) 3 3) ∧ w' = smW w := by
  go_enter Try.func20, Try.ntmps20
  go_wp2
  go_ret
  exact ⟨rfl, rfl⟩
end
end Lan
end Go.Proofs.Ytganoklclnbjkaa
