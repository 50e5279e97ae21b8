/- Proves BlocksOwn of layer 8 (blocks), for every input, with no condition: volumes and ops are not turned, and what was answered may be written over. -/
import Derived.Test.YtfgoaedgiomlkaaBloW
set_option linter.all false
namespace Go.Proofs.Ytfgoaedgiomlkaa
open Go.ChangeShapes Go.WideShapes Go.ChangeAt Go.RowKit
open Blo

/-- A row of numbers in new memory from B on, whatever they are: it may be written. -/
def MineN (w : World) (B : Nat) (A : Option Addr) (n : Nat) : Prop := n = 0 ∨ ∃ g cur, A = some ⟨g, 0, none⟩ ∧ B ≤ g ∧ Blk w g 45 cur ∧ n ≤ cur.size ∧ ∀ j, j < n → ∃ z, cur[j]? = some (.int .u64 z)
theorem MineN.keep {w w' : World} {B : Nat} {A : Option Addr} {n : Nat} (h : MineN w B A n) (hb : Below w.heap.size w w') : MineN w' B A n := by
  rcases h with h | ⟨g, cur, h1, h2, h3, h4, h5⟩
  · exact .inl h
  · exact .inr ⟨g, cur, h1, h2, h3.keep hb, h4, h5⟩
theorem MineN.mono {w : World} {B B' : Nat} {A : Option Addr} {n : Nat} (h : MineN w B A n) (hb : B' ≤ B) : MineN w B' A n := by
  rcases h with h | ⟨g, cur, h1, h2, h3, h4, h5⟩
  · exact .inl h
  · exact .inr ⟨g, cur, h1, by omega, h3, h4, h5⟩
theorem MineN.set {w : World} {B : Nat} {A : Option Addr} {n : Nat} (h : MineN w B A n) (g o : Nat) (z : Int) : MineN (w.setCell ⟨g, o, none⟩ (.int .u64 z)) B A n := by
  rcases h with h | ⟨q, cur, h1, h2, h3, h4, h5⟩
  · exact .inl h
  · by_cases e : q = g
    · subst e
      refine .inr ⟨q, cur.setIfInBounds o (.int .u64 z), h1, h2, h3.setCell o _, by simpa using h4, fun j hj => ?_⟩
      by_cases ej : o = j
      · subst ej
        exact ⟨z, by rw [Array.getElem?_setIfInBounds, if_pos rfl, if_pos (by omega)]⟩
      · obtain ⟨y, hy⟩ := h5 j hj
        exact ⟨y, by rw [Array.getElem?_setIfInBounds, if_neg ej]; exact hy⟩
    · exact .inr ⟨q, cur, h1, h2, h3.grown (grown_setCell w ⟨g, o, none⟩ (.int .u64 z)) (fun e' => by simp only [Option.some.injEq] at e'; exact e e'), h4, h5⟩
theorem mine_own {w : World} {B : Nat} {A : Option Addr} {n c : Nat} {l : List Nat} (h : w.ownsRow B 45 1 (.slice A n c) n (nvs l)) : MineN w B A n := by
  by_cases h0 : n = 0
  · exact .inl h0
  · obtain ⟨g, cap, cur, e, hnc, _, hbg, hblk, hcs, hx⟩ := own_cells h (by omega)
    injection e with e _ _
    refine .inr ⟨g, cur, e, hbg, hblk, by omega, fun j hj => ?_⟩
    have hl : n = l.length := by have := h.1; rw [nvs_length] at this; omega
    refine ⟨((l[j]'(by omega) : Nat) : Int), ?_⟩
    have h1 : (cur.toList.take n)[j]? = (nvs l)[j]? := by rw [hx]
    rw [List.getElem?_take, if_pos hj, Array.getElem?_toList] at h1
    rw [h1]
    simp [nvs, List.getElem?_eq_getElem (show j < l.length by omega)]
/-- A list of ops whose numbers may be written. -/
def ListN (w : World) (B : Nat) (A : Option Addr) (m : Nat) : Prop := m = 0 ∨ ∃ g cur, A = some ⟨g, 0, none⟩ ∧ Blk w g 36 cur ∧ ∀ i, i < m → ∃ X n c, cur[i * 4 + 3]? = some (.slice X n c) ∧ n ≤ 9223372036854775807 ∧ MineN w B X n
theorem ListN.keep {w w' : World} {B : Nat} {A : Option Addr} {m : Nat} (h : ListN w B A m) (hb : Below w.heap.size w w') : ListN w' B A m := by
  rcases h with h | ⟨g, cur, h1, h2, h3⟩
  · exact .inl h
  · exact .inr ⟨g, cur, h1, h2.keep hb, fun i hi => by
      obtain ⟨X, n, c, k1, k2, k3⟩ := h3 i hi
      exact ⟨X, n, c, k1, k2, k3.keep hb⟩⟩
theorem blk_ne {w : World} {g g' : Nat} {t t' : TypeId} {cs cs' : Array Value} (h : Blk w g t cs) (h' : Blk w g' t' cs') (ht : t ≠ t') : g ≠ g' := by
  intro e
  subst e
  have h1 : w.heap[g]? = some (.cells cs t (0, 0)) := h
  have h2 : w.heap[g]? = some (.cells cs' t' (0, 0)) := h'
  rw [h1] at h2
  simp only [Option.some.injEq, Obj.cells.injEq] at h2
  exact ht h2.2.1
theorem ListN.set {w : World} {B : Nat} {A : Option Addr} {m : Nat} (h : ListN w B A m) {g : Nat} {cs : Array Value} (hg : Blk w g 45 cs) (o : Nat) (z : Int) : ListN (w.setCell ⟨g, o, none⟩ (.int .u64 z)) B A m := by
  rcases h with h | ⟨q, cur, h1, h2, h3⟩
  · exact .inl h
  · refine .inr ⟨q, cur, h1, h2.grown (grown_setCell w ⟨g, o, none⟩ (.int .u64 z)) (fun e' => ?_), fun i hi => ?_⟩
    · simp only [Option.some.injEq] at e'
      exact blk_ne h2 hg (by decide) e'
    · obtain ⟨X, n, c, k1, k2, k3⟩ := h3 i hi
      exact ⟨X, n, c, k1, k2, k3.set g o z⟩
theorem list_got {w : World} {B : Nat} {A : Option Addr} {m c : Nat} {l : List BOp} (h : GotO w B A m c l) : ListN w B A m := by
  by_cases h0 : m = 0
  · exact .inl h0
  · have hs := h.sml
    obtain ⟨L, hO, rfl⟩ := h.own
    have hlen := hO.len
    rcases hO.row.2 with ⟨_, q⟩ | ⟨g, cap, cur, e, hg, hh, hnc, hcm, hcs, hx⟩
    · omega
    · injection e with e _ _
      refine .inr ⟨g, cur, e, hh, fun i hi => ?_⟩
      have hi' : i < L.length := by omega
      have hd := hO.data L[i] (List.getElem_mem hi')
      have hsm : Sml L[i].1 := hs L[i].1 (List.mem_map_of_mem (List.getElem_mem hi'))
      have hsh := hsm.short
      obtain ⟨X, c', e2, h1, h2, h3⟩ := own_form hd
      refine ⟨X, L[i].1.data.length, c', ?_, by omega, ?_⟩
      · have h4 : (ovs L)[i * 4 + 3]? = (ov4 L[i])[3]? := ovs_at hi' (by omega)
        rw [← hx, List.getElem?_take] at h4
        split at h4
        · rw [Array.getElem?_toList] at h4
          rw [h4, ← e2]
          rfl
        · cases h4
      · rw [e2] at hd
        exact mine_own hd
/-- What stands while what was answered is written over. -/
structure Ovr (w wr : World) (gs : Nat) (A1 A2 Al : Option Addr) (m1 c1 m2 c2 ml : Nat) : Prop where
  below : Below w.heap.size w wr
  rows : Blk wr gs 23 #[.slice A1 m1 c1, .slice A2 m2 c2]
  r1 : MineN wr w.heap.size A1 m1
  r2 : MineN wr w.heap.size A2 m2
  l : ListN wr w.heap.size Al ml
theorem Ovr.set {w wr : World} {gs : Nat} {A1 A2 Al : Option Addr} {m1 c1 m2 c2 ml : Nat} (h : Ovr w wr gs A1 A2 Al m1 c1 m2 c2 ml) {g : Nat} {cs : Array Value} (hg : Blk wr g 45 cs) (hb : w.heap.size ≤ g) (o : Nat) (z : Int) : Ovr w (wr.setCell ⟨g, o, none⟩ (.int .u64 z)) gs A1 A2 Al m1 c1 m2 c2 ml :=
  ⟨h.below.setCell hb _, h.rows.grown (grown_setCell wr ⟨g, o, none⟩ (.int .u64 z)) (fun e => by simp only [Option.some.injEq] at e; exact blk_ne h.rows hg (by decide) e), h.r1.set g o z, h.r2.set g o z, h.l.set hg o z⟩
theorem Ovr.row {w : World} {gs : Nat} {A1 A2 Al : Option Addr} {m1 c1 m2 c2 ml : Nat} (z1 : m1 ≤ 9223372036854775807) (z2 : m2 ≤ 9223372036854775807) {j : Nat} (hj : j < 2) : ∃ A m c, (#[.slice A1 m1 c1, .slice A2 m2 c2] : Array Value)[j]? = some (.slice A m c) ∧ m ≤ 9223372036854775807 ∧ ∀ wr, Ovr w wr gs A1 A2 Al m1 c1 m2 c2 ml → MineN wr w.heap.size A m := by
  match j, hj with
  | 0, _ => exact ⟨A1, m1, c1, rfl, z1, fun _ h => h.r1⟩
  | 1, _ => exact ⟨A2, m2, c2, rfl, z2, fun _ h => h.r2⟩
set_option maxRecDepth 100000 in
set_option maxHeartbeats 8000000 in
theorem blocksOwn_walk (w : World) (A : Option Addr) (n c : Nat) (v : List Nat) (hv : Ns w A n v) (hA : A = none → n = 0 ∧ c = 0) (hnc : n ≤ c) (hc : c ≤ 9223372036854775807) (hn8 : n * 8 ≤ 140737488355328) (x : BOp) (X : Option Addr) (m cx : Nat) (dx : Dat w x X m cx) :
    Calls Try.prog 8 #[.slice A n c, .agg #[.int .i64 x.kind, .int .i64 x.off, .int .i64 x.len, .slice X m cx]] w fun e w' => e = .returned (.bool true) ∧ Below w.heap.size w w' := by
  obtain ⟨i1, hi1, hy0, hy1, hy2⟩ := u64_info
  have Hy := Lib.hid hy2
  clear hy2
  have hni : I64 (n : Int) := by unfold I64; omega
  have hac := Blk.new w 36 #[.int .i64 x.kind, .int .i64 x.off, .int .i64 x.len, .slice X m cx] rfl
  have hba : Below w.heap.size w (w.alloc (.cells #[.int .i64 x.kind, .int .i64 x.off, .int .i64 x.len, .slice X m cx] 36)) := (Below.refl _ _).alloc (Nat.le_refl _) _
  have hs1 : (w.alloc (.cells #[.int .i64 x.kind, .int .i64 x.off, .int .i64 x.len, .slice X m cx] 36)).heap.size = w.heap.size + 1 := by simp
  have hv1 := hv.below hba
  have dx1 := dx.below hba
  have hm8 := dx.by8
  have hXn := dx.nil
  clear hv dx
  go_enter Try.func8, Try.ntmps8
  go_wp2_with (first
    | (at_builtin
       refine wpList_app _ rfl (.const (.slice none 0 0)) (.tmp 18) _ rfl (w.heap.size + 1) 45 i1 _ 1 8 Try.underlying23 hi1 hy0 hy1 Hy.out rfl Nat.one_pos (.slice none 0 0) 0 [] rfl (own_nil _ _ _ _) A n c (nvs v) rfl (fun h => (hA h).1) hv1.1 (nvs_one _) (by unfold maxLen; omega) (by omega) (by simp) ?_
       intro v2 w2 hown2 hg2 hat2
       simp only [Nat.zero_add, List.nil_append] at hown2
       have hb12 : Below (w.alloc (.cells #[.int .i64 x.kind, .int .i64 x.off, .int .i64 x.len, .slice X m cx] 36)).heap.size (w.alloc (.cells #[.int .i64 x.kind, .int .i64 x.off, .int .i64 x.len, .slice X m cx] 36)) w2 := (Below.refl _ _).grown hg2 (Nat.le_refl _) (fun k hk => by cases hk)
       have hac2 := hac.keep hb12
       have d3 := hac2.cell (j := 3) (u := .slice X m cx) rfl
       have dx2 := dx1.below hb12
       have hz2 := hb12.size)
    | (at_builtin
       refine wpList_app _ rfl (.const (.slice none 0 0)) (.tmp 21) _ rfl w2.heap.size 45 i1 _ 1 8 Try.underlying23 hi1 hy0 hy1 Hy.out rfl Nat.one_pos (.slice none 0 0) 0 [] rfl (own_nil _ _ _ _) X m cx (nvs x.data) rfl (fun h => (hXn h).1) dx2.ns.1 (nvs_one _) (by unfold maxLen; omega) (by omega) (Nat.le_refl _) ?_
       intro v3 w3 hown3 hg3 hat3
       simp only [Nat.zero_add, List.nil_append] at hown3
       have hb23 : Below w2.heap.size w2 w3 := (Below.refl _ _).grown hg3 (Nat.le_refl _) (fun k hk => by cases hk)
       have hac3 := hac2.keep hb23
       have e0 := hac3.cell (j := 0) (u := .int .i64 x.kind) rfl
       have e1 := hac3.cell (j := 1) (u := .int .i64 x.off) rfl
       have e2 := hac3.cell (j := 2) (u := .int .i64 x.len) rfl
       have e3 := hac3.cell (j := 3) (u := .slice X m cx) rfl)
    | fail)
  have hw3 : w3.ownsRow (w.heap.size + 1) 45 1 v2 n (nvs v) := own_keep hown2 hb23
  have hv3 := (hv1.below hb12).below hb23
  have dx3 := dx2.below hb23
  have hB3 : Below w.heap.size w w3 := below_step (below_step hba hb12 (Nat.le_refl _)) hb23 (Nat.le_refl _)
  clear hba hs1 hv1 dx1 hac hg2 hat2 hb12 hac2 d3 dx2 hz2 hg3 hat3 hb23 hown2
  obtain ⟨Aw, cw, rfl, hcw, -, -⟩ := own_form hw3
  obtain ⟨Ad, cd, rfl, hcd, -, -⟩ := own_form hown3
  have hwas : Ns w3 Aw n v := no_ns hw3 hv3.2
  have hdat : Ns w3 Ad m x.data := no_ns hown3 dx3.ns.2
  have hml : m ≤ 9223372036854775807 := by omega
  clear hw3 hown3
  have ho3 := os_new1 (t := 36) (g := w3.heap.size) rfl dx3
  have hbo : Below w3.heap.size w3 (w3.alloc (.cells #[.int .i64 x.kind, .int .i64 x.off, .int .i64 x.len, .slice X m cx] 36)) := (Below.refl _ _).alloc (Nat.le_refl _) _
  refine (apply_ _ A n c v (hv3.below hbo) hA hnc hc _ 1 1 [x] ho3 (by omega)).mono ?_
  rintro e w4 ⟨A4, m4, c4, rfl, g4, hb4⟩
  have r4 : MineN w4 w3.heap.size A4 m4 := (mine_own g4.own).mono hbo.size
  have z4 := g4.bounds
  have hb34 := below_step hbo hb4 (Nat.le_refl _)
  clear hbo hb4 g4 ho3 e0 e1 e2 e3
  go_wp2_with fail
  refine (read_ w4 A n c v (hv3.below hb34) hA hnc hc).mono ?_
  obtain ⟨er, her⟩ : ∃ z, (if manyB (n : Int) then (0 : Int) else 6) = z := ⟨_, rfl⟩
  obtain ⟨lr, hlr⟩ : ∃ z, (if manyB (n : Int) then v else []) = z := ⟨_, rfl⟩
  rw [her, hlr]
  clear her hlr
  rintro e w5 ⟨A5, m5, c5, rfl, g5, hb5⟩
  have r5 : MineN w5 w3.heap.size A5 m5 := (mine_own g5.own).mono hb34.size
  have z5 := g5.bounds
  have r45 := r4.keep hb5
  have hb35 := below_step hb34 hb5 (Nat.le_refl _)
  have hac5 := hac3.keep hb35
  have e0 := hac5.cell (j := 0) (u := .int .i64 x.kind) rfl
  have e1 := hac5.cell (j := 1) (u := .int .i64 x.off) rfl
  have e2 := hac5.cell (j := 2) (u := .int .i64 x.len) rfl
  have e3 := hac5.cell (j := 3) (u := .slice X m cx) rfl
  have ho5 := os_new1 (t := 36) (g := w5.heap.size) rfl (dx3.below hb35)
  have hbo : Below w5.heap.size w5 (w5.alloc (.cells #[.int .i64 x.kind, .int .i64 x.off, .int .i64 x.len, .slice X m cx] 36)) := (Below.refl _ _).alloc (Nat.le_refl _) _
  clear r4 hb34 hb5 g5
  go_wp2_with fail
  refine (squash _ n _ 1 1 [x] hni ho5 (by omega)).mono ?_
  rintro e w6 ⟨A6, m6, c6, rfl, g6, hb6⟩
  have hb56 := below_step hbo hb6 (Nat.le_refl _)
  have r46 := r45.keep hb56
  have r56 := r5.keep hb56
  have hb36 := below_step hb35 hb56 (Nat.le_refl _)
  have hl6 : ListN w6 w3.heap.size A6 m6 := list_got ⟨(g6.keep (Below.refl _ _)).own.imp fun L h => ⟨h.1.mono (Nat.le_trans hb35.size hbo.size), h.2⟩, g6.sml⟩
  have z6 := g6.bounds
  clear r45 r5 hb35 hac5 e0 e1 e2 e3 ho5 hbo hb6 hb56 g6
  have hbG : Below w6.heap.size w6 (w6.alloc (.cells #[.slice A4 m4 c4, .slice A5 m5 c5] 23)) := (Below.refl _ _).alloc (Nat.le_refl _) _
  have hO : Ovr w3 (w6.alloc (.cells #[.slice A4 m4 c4, .slice A5 m5 c5] 23)) w6.heap.size A4 A5 A6 m4 c4 m5 c5 m6 :=
    ⟨below_step hb36 hbG (Nat.le_refl _), Blk.new w6 _ _ rfl, r46.keep hbG, r56.keep hbG, hl6.keep hbG⟩
  clear r46 r56 hb36 hl6 hbG
  have z4' : m4 ≤ 9223372036854775807 := by omega
  have z5' : m5 ≤ 9223372036854775807 := by omega
  have z6' : m6 ≤ 9223372036854775807 := by omega
  clear z4 z5 z6
  go_wp2_with fail
  generalize (w6.alloc (.cells #[.slice A4 m4 c4, .slice A5 m5 c5] 23)) = w7 at *
  generalize w6.heap.size = gs at *
  go_loopw [49] (fun iv wr => ∃ j : Nat, j ≤ 2 ∧ iv = .int .i64 (j : Int) ∧ Ovr w3 wr gs A4 A5 A6 m4 c4 m5 c5 m6) (fun iv _ => 2 - (intOf iv).toNat)
  case atStart => exact ⟨0, Nat.zero_le _, rfl, hO⟩
  case round =>
    obtain ⟨j, hj, rfl, hOr⟩ := hrel
    obtain ⟨wo, rfl⟩ : ∃ wo : World, wo = wr := ⟨_, rfl⟩
    clear hO
    by_cases hlt : j < 2
    · have hjl : (j : Int) < 2 := by omega
      have hj0 : (0 : Int) ≤ (j : Int) := by omega
      obtain ⟨Ak, mk, ck, hck, hmk, hmine⟩ := Ovr.row (w := w3) (gs := gs) (A1 := A4) (A2 := A5) (Al := A6) (m1 := m4) (c1 := c4) (m2 := m5) (c2 := c5) (ml := m6) z4' z5' hlt
      have q0 := hOr.rows.cell hck
      clear hck
      go_wp2_with fail
      clear q0
      go_loopw [55] (fun iv wx => ∃ i : Nat, i ≤ mk ∧ iv = .int .i64 (i : Int) ∧ Ovr w3 wx gs A4 A5 A6 m4 c4 m5 c5 m6) (fun iv _ => mk - (intOf iv).toNat)
      case atStart => exact ⟨0, Nat.zero_le _, rfl, hOr⟩
      case round =>
        obtain ⟨i, hi, rfl, hOx⟩ := hrel
        clear hOr
        by_cases hil : i < mk
        · have hii : (i : Int) < (mk : Int) := by omega
          have hi0 : (0 : Int) ≤ (i : Int) := by omega
          rcases hmine _ hOx with h0 | ⟨g, cur, rfl, hg, hblk, hmc, hcs⟩
          · omega
          · obtain ⟨z, hz⟩ := hcs i hil
            have q1 := hblk.cell hz
            have q2 := hblk.free i
            have hO2 := hOx.set hblk hg i (IntKind.u64.wrap (z + 1))
            clear hOx hblk hcs hmc hz
            go_wp2
            go_roundw
            case rel => exact ⟨i + 1, by omega, by go_num, hO2⟩
            case measure => simp [intOf]; omega
        · have hin : (mk : Int) ≤ (i : Int) := by omega
          go_wp2
          go_roundw
          case rel => exact ⟨j + 1, by omega, by go_num, hOx⟩
          case measure => simp [intOf]; omega
    · have hin : (2 : Int) ≤ (j : Int) := by omega
      go_wp2_with fail
      go_loopw [68] (fun iv wx => ∃ i : Nat, i ≤ m6 ∧ iv = .int .i64 (i : Int) ∧ Ovr w3 wx gs A4 A5 A6 m4 c4 m5 c5 m6) (fun iv _ => m6 - (intOf iv).toNat)
      case atStart => exact ⟨0, Nat.zero_le _, rfl, hOr⟩
      case round =>
        obtain ⟨i, hi, rfl, hOx⟩ := hrel
        obtain ⟨wp, rfl⟩ : ∃ wp : World, wp = wr := ⟨_, rfl⟩
        clear hOr
        by_cases hil : i < m6
        · have hii : (i : Int) < (m6 : Int) := by omega
          have hi0 : (0 : Int) ≤ (i : Int) := by omega
          rcases hOx.l with h0 | ⟨gl, curl, rfl, hlb, hle⟩
          · omega
          · obtain ⟨Xk, mk, ck, hck, hmk, hmx⟩ := hle i hil
            have q0 := hlb.cell hck
            have Hck := Lib.hid hck
            clear hle hck
            go_wp2_with fail
            clear q0
            go_loopw [77] (fun iv wx => ∃ k : Nat, k ≤ mk ∧ iv = .int .i64 (k : Int) ∧ Ovr w3 wx gs A4 A5 (some ⟨gl, 0, none⟩) m4 c4 m5 c5 m6 ∧ Blk wx gl 36 curl ∧ MineN wx w3.heap.size Xk mk) (fun iv _ => mk - (intOf iv).toNat)
            case atStart => exact ⟨0, Nat.zero_le _, rfl, hOx, hlb, hmx⟩
            case round =>
              obtain ⟨k, hk, rfl, hOy, hly, hmy⟩ := hrel
              clear hOx hlb hmx
              by_cases hkl : k < mk
              · have hkk : (k : Int) < (mk : Int) := by omega
                have hk0 : (0 : Int) ≤ (k : Int) := by omega
                rcases hmy with h0 | ⟨g, cur, rfl, hg, hblk, hmc, hcs⟩
                · omega
                · obtain ⟨z, hz⟩ := hcs k hkl
                  have q1 := hblk.cell hz
                  have q2 := hblk.free k
                  have q0 := hly.cell Hck.out
                  have hne := blk_ne hly hblk (by decide)
                  have hO2 := hOy.set hblk hg k (IntKind.u64.wrap (z + 1))
                  have hl2 := hly.grown (grown_setCell wr ⟨g, k, none⟩ (.int .u64 (IntKind.u64.wrap (z + 1)))) (fun e => by simp only [Option.some.injEq] at e; exact hne e)
                  have hm2 := MineN.set (show MineN wr w3.heap.size (some ⟨g, 0, none⟩) mk from .inr ⟨g, cur, rfl, hg, hblk, hmc, hcs⟩) g k (IntKind.u64.wrap (z + 1))
                  clear hOy hly hblk hcs hmc hz
                  go_wp2
                  go_roundw
                  case rel => exact ⟨k + 1, by omega, by go_num, hO2, hl2, hm2⟩
                  case measure => simp [intOf]; omega
              · have hin : (mk : Int) ≤ (k : Int) := by omega
                go_wp2
                go_roundw
                case rel => exact ⟨i + 1, by omega, by go_num, hOy⟩
                case measure => simp [intOf]; omega
        · have hin2 : (m6 : Int) ≤ (i : Int) := by omega
          have hb37 := hOx.below
          have hac8 := hac3.keep hb37
          have e3 := hac8.cell (j := 3) (u := .slice X m cx) rfl
          have hv8 := hv3.below hb37
          have hw8 := hwas.below hb37
          have hx8 := (dx3.below hb37).ns
          have hd8 := hdat.below hb37
          have hB8 := below_step hB3 hb37 (Nat.le_refl _)
          clear hOx hb37
          go_wp2_with fail
          refine (words_ wp A Aw n n c cw v v hv8 hw8 (by omega)).mono ?_
          rw [decide_eq_true (rfl : v = v)]
          rintro e w9 ⟨rfl, j9, rfl⟩
          have e3' : (wp.drewN j9).cell? ⟨w.heap.size, 3, none⟩ = some (.slice X m cx) := e3
          have hx9 := hx8.drewN j9
          have hd9 := hd8.drewN j9
          clear e3 hv8 hw8 hx8 hd8
          go_wp2_with fail
          refine (words_ _ X Ad m m cx cd x.data x.data hx9 hd9 hml).mono ?_
          rw [decide_eq_true (rfl : x.data = x.data)]
          rintro e wa ⟨rfl, ja, rfl⟩
          go_wp2_with fail
          refine (alive_ _).mono ?_
          rintro e wb ⟨rfl, hbb⟩
          go_wp2
          go_ret
          exact ⟨rfl, below_step hB8 (⟨hbb.os, hbb.tape, hbb.output, hbb.size, hbb.block⟩ : Below wp.heap.size wp wb) (Nat.le_refl _)⟩

set_option maxRecDepth 100000 in
theorem blocksOwn_lifted (os : Os) (started : os.Started) (H : Type) (enc : TypeId × Value → H) :
    ReturnsInHanded {} Try.checked os 8 .any (Rows.blocksOwnSpec.pre6 enc Try.prog Try.f8 Rows.blocksOwnRow.domain false) (Rows.blocksOwnSpec.post enc Try.prog Try.f8 false true false false) := by
  refine law_lifted (C := Try.checked) (tb := 4) own_ started (by kernel_rfl) Try.func8
    (ChangeSpec.witness6 (enc := enc) (C := Try.checked) false ⟨#[], #[.slice none 0 0, .agg #[.int .i64 0, .int .i64 0, .int .i64 0, .slice none 0 0]], []⟩ 8 (by kernel_rfl) (by kernel_rfl) (by kernel_rfl) (by kernel_rfl))
    rfl rfl Try.underlying4 laidOut_ (by kernel_rfl) (fun ds h => by match ds, h with | [_, _], _ => rfl) ?_
  intro W base args ds p hval0 hA0 _ hsz0
  have hval : ∀ (j : Nat) t v, Try.f8.params[j]? = some t → args[j]? = some v → Value.okWide Try.prog W .any base t v := hval0
  have hA : DataW.TrodAll enc Try.prog W 0 (fun _ => true) true Try.f8.params.toList args.toList ds p := hA0
  have hsz : (DataW.weightsEach Try.prog Try.f8.params.toList ds).all (· ≤ reachBytes) = true := hsz0
  clear hval0 hA0 hsz0
  rw [Try.params8] at hA hval hsz
  obtain ⟨v0, v1, d0, d1, p0, p1, rfl, rfl, rfl, h0, h1⟩ := trodAll_two hA
  obtain ⟨A0, n0, c0, xs0, rfl, r0, b0⟩ := arg_slice ops_ns Try.underlying23 (hval 0 _ v0 rfl rfl) h0 (weight_at hsz (j := 0) rfl rfl)
  obtain ⟨cs1, a1, rfl, r1, b1⟩ := arg_struct ops_op Try.underlying36 (hval 1 _ v1 rfl rfl) h1 (weight_at hsz (j := 1) rfl rfl)
  obtain ⟨q1, q2, q3, q4, q5⟩ := ns_of r0
  obtain ⟨X1, m1, k1, rfl, dx1⟩ := op_arr r1
  exact blocksOwn_walk W A0 n0 c0 _ q1 q3 q2 q4 (by omega) _ X1 m1 k1 dx1

/-- BlocksOwn, for every input: the statement as it was given. -/
theorem blocksOwn_holds : Rows.BlocksOwnSaid :=
  OpenClaim.holds_of_wide 8 Try.f8 rfl rfl rfl rfl rfl rfl rfl ⟨rfl, rfl, rfl, rfl, rfl⟩ rfl rfl rfl rfl rfl (by kernel_rfl) Try.func8 (by kernel_rfl)
    (of_decide_eq_true (by kernel_rfl)) (by unfold Func.isWrapper; first | (rw [if_pos (by decide +kernel)]; kernel_rfl) | (rw [if_neg (by decide +kernel)]; exact ⟨rfl, rfl⟩))
    (fun os started H enc _ => blocksOwn_lifted os started H enc)
end Go.Proofs.Ytfgoaedgiomlkaa
