/- General words: rows of numbers of 64 bits, and what is written into a row of the call's own. Nothing of the program is named here but types. -/
import Derived.Test.YtlmaelbalmjlbaaTurn
import Derived.Lib.SliceRun
set_option linter.all false
namespace Go.Proofs.Ytlmaelbalmjlbaa
open Go.RowKit

theorem nvs_length (l : List Nat) : (nvs l).length = l.length := by simp [nvs]
theorem nvs_one (l : List Nat) : ∀ u ∈ nvs l, u.oneCell' = true := by
  intro u hu
  obtain ⟨z, _, rfl⟩ := List.mem_map.1 hu
  rfl
theorem nvs_app (l l' : List Nat) : nvs (l ++ l') = nvs l ++ nvs l' := by simp [nvs]
theorem nvs_inj {l l' : List Nat} (h : nvs l = nvs l') : l = l' := by
  have e : ∀ m : List Nat, (nvs m).map (fun v => match v with | .int _ z => z.toNat | _ => 0) = m := fun m => by simp [nvs, Function.comp_def]
  rw [← e l, ← e l', h]
theorem Ns.drewN {w : World} {A : Option Addr} {n : Nat} {l : List Nat} (h : Ns w A n l) (k : Nat) : Ns (w.drewN k) A n l := h
theorem Ns.zero {w : World} {A : Option Addr} {n : Nat} {l : List Nat} (h : Ns w A n l) (hA : A = none) : n = 0 := by
  cases l with
  | nil => have := h.len; simpa using this
  | cons c cs => obtain ⟨b, o, e, _⟩ := h.1.2 0 (.int .u64 (c : Int)) (by simp [nvs]); rw [hA] at e; cases e
/-- A row of the call's own, of numbers. -/
abbrev No (w : World) (base : Nat) (v : Value) (l : List Nat) : Prop := w.ownsRow base 107 1 v l.length (nvs l)
theorem no_ns {w : World} {base : Nat} {A : Option Addr} {n c : Nat} {l : List Nat} (h : w.ownsRow base 107 1 (.slice A n c) n (nvs l)) (hl : ∀ z ∈ l, z < 18446744073709551616) : Ns w A n l := ⟨rd_own h, hl⟩
/-- The form of an owned row of single cells, with what is written into it. -/
theorem own_cells {w : World} {base : Nat} {e : TypeId} {v : Value} {n : Nat} {xs : List Value} (h : w.ownsRow base e 1 v n xs) (hn : 0 < n) :
    ∃ g cap cur, v = .slice (some ⟨g, 0, none⟩) n cap ∧ n ≤ cap ∧ cap ≤ maxLen ∧ base ≤ g ∧ Blk w g e cur ∧ cur.size = cap ∧ cur.toList.take n = xs := by
  rcases h.2 with ⟨_, h0⟩ | ⟨g, cap, cur, rfl, hg, hh, hnc, hcm, hcs, hx⟩
  · omega
  · exact ⟨g, cap, cur, rfl, hnc, hcm, hg, hh, by omega, by simpa using hx⟩
theorem own_sets {w : World} {base : Nat} {e : TypeId} {g n cap : Nat} {xs : List Value} (h : w.ownsRow base e 1 (.slice (some ⟨g, 0, none⟩) n cap) n xs) (vs : List Value) (o : Nat) (ho : o + vs.length ≤ n) :
    (w.setCells g o vs).ownsRow base e 1 (.slice (some ⟨g, 0, none⟩) n cap) n (xs.take o ++ vs ++ xs.drop (o + vs.length)) := by
  have hxl := h.1
  rw [Nat.mul_one] at hxl
  refine ⟨by simp; omega, ?_⟩
  rcases h.2 with ⟨e1, _⟩ | ⟨g', cap', cur, e1, hg, hh, hnc, hcm, hcs, hx⟩
  · cases e1
  · injection e1 with e1 _ e3
    injection e1 with e1
    injection e1 with e1
    subst e1 e3
    have hb : Blk w g e cur := hh
    have hs := hb.sets (vs := vs) (o := o) (by omega)
    refine .inr ⟨g, cap, _, rfl, hg, hs, hnc, hcm, by simp; omega, ?_⟩
    rw [Nat.mul_one] at hx ⊢
    rw [← hx]
    apply List.ext_getElem?
    intro i
    simp only [List.getElem?_take, List.getElem?_append, List.getElem?_drop, List.length_take, List.length_append, Array.length_toList]
    have hcl : cur.toList.length = cap := by simp; omega
    by_cases h1 : i < o
    · have hin : i < n := by omega
      simp only [show min o (min n cur.size) = o by omega, show min o cur.size = o by omega, if_pos h1, if_pos hin, if_pos (show i < o + vs.length by omega)]
    · by_cases h2 : i < o + vs.length
      · rw [if_pos (show i < n by omega), if_pos (by omega), if_neg (by omega), if_pos (by omega), if_neg (by omega)]
        congr 1; omega
      · by_cases h3 : i < n
        · rw [if_pos h3, if_neg (by omega), if_neg (by omega), if_pos (by omega)]
          congr 1; omega
        · rw [if_neg h3, if_neg (by omega), if_neg (by omega)]
theorem own_set1 {w : World} {base : Nat} {e : TypeId} {g n cap : Nat} {xs : List Value} (h : w.ownsRow base e 1 (.slice (some ⟨g, 0, none⟩) n cap) n xs) (o : Nat) (u : Value) (ho : o < n) :
    (w.setCell ⟨g, o, none⟩ u).ownsRow base e 1 (.slice (some ⟨g, 0, none⟩) n cap) n (xs.set o u) := by
  have := own_sets h [u] o (by simp; omega)
  have hxl := h.1
  rw [List.set_eq_take_append_cons_drop, if_pos (by omega)]
  simpa [World.setCells] using this
/-- An owned row where another block was turned. -/
theorem own_grown {w w' : World} {row : Option Nat} {base : Nat} {e : TypeId} {size n : Nat} {v : Value} {xs : List Value} (h : w.ownsRow base e size v n xs) (hg : w.grownBy w' row) (hne : ∀ k, v.ownBlock = some k → some k ≠ row) : w'.ownsRow base e size v n xs := by
  refine ⟨h.1, ?_⟩
  rcases h.2 with h2 | ⟨g, cap, cur, rfl, hb, hh, r⟩
  · exact .inl h2
  · exact .inr ⟨g, cap, cur, rfl, hb, (hg.block g (h.lt g rfl).2 (hne g rfl)).trans hh, r⟩

theorem nvs_take (l : List Nat) (k : Nat) : (nvs l).take k = nvs (l.take k) := by simp [nvs]
theorem nvs_drop (l : List Nat) (k : Nat) : (nvs l).drop k = nvs (l.drop k) := by simp [nvs]
theorem nvs_zeros (k : Nat) : List.replicate k (Value.int .u64 0) = nvs (List.replicate k 0) := by simp [nvs]
theorem wpList_copy_row {P : Program} (w : World) {ops : Array Oper} {rest : List Oper} {o : Oper} {a : Act} {Q : Exit → Act → World → Prop} (hg : o.guard = none) (x y : Operand) (T : TypeId) (hop : o.op = Op.call { callee := Callee.builtin Builtin.copy, args := #[x, y], argTypes := #[T, T] })
    (base g n cap : Nat) (e : TypeId) (xs : List Value) (hown : w.ownsRow base e 1 (.slice (some ⟨g, 0, none⟩) n cap) n xs) (hT : P.underlying T = some (.slice e)) (he : (P.info? e).map (·.size) = some 1)
    (k M : Nat) (A : Option Addr) (m c : Nat) (ys : List Value) (hy : Rd w A 1 m ys) (h1 : ∀ v ∈ ys, v.oneCell' = true) (hm : 0 < m) (hkm : k + m ≤ n) (L : Nat) (hvx : a.eval x = .slice (some ⟨g, k, none⟩) L M) (hL : L = m) (hvy : a.eval y = .slice A m c)
    (hK : ∀ z w', w'.ownsRow base e 1 (.slice (some ⟨g, 0, none⟩) n cap) n (xs.take k ++ ys ++ xs.drop (k + m)) → w.grownBy w' (some g) → wpList P ops Q rest (a.put o.dst z) w') :
    wpList P ops Q (o :: rest) a w := by
  subst L
  refine wpList_plain hg fun K' hK' => ?_
  have hyl : ys.length = m := by have := hy.1; omega
  obtain ⟨b, off, rfl, _⟩ := hy.2 0 ys[0] (List.getElem?_eq_getElem (by omega))
  obtain ⟨g', cap', cur, ev, -, hcm, -, hb, hcs, -⟩ := own_cells hown (by omega)
  injection ev with ev _ ec
  injection ev with ev
  injection ev with ev
  subst ev ec
  have hnc : n ≤ cap := by
    rcases hown.2 with ⟨q, _⟩ | ⟨_, _, _, q, _, _, r, _⟩
    · cases q
    · injection q with _ _ q; omega
  have hrun := run_copy_cells (P := P) w T T o.type e g k m M ⟨b, off, none⟩ m c ys hT he (by rw [hyl]; simp) (fun j v hv => by
      obtain ⟨b', o', e', hc⟩ := hy.2 j v hv
      injection e' with e'
      injection e' with e1 e2
      subst e1 e2
      rw [add_plain]
      exact hc) (fun j hj => ((hb.there 0 cur.size (by omega)) (k + j) (by omega)).1 |> fun q => by simpa using q) (fun j hj => hb.free _) h1
  have hs := own_sets hown ys k (by omega)
  rw [hyl] at hs
  unfold Oper.wp
  simp [execOp, hop, resolve, invoke, builtin, hvx, hvy, hrun, Result.andThen]
  exact hK' _ _ (hK _ _ hs (grown_sets g ys k w))
theorem wpList_clear_row {P : Program} (w : World) {ops : Array Oper} {rest : List Oper} {o : Oper} {a : Act} {Q : Exit → Act → World → Prop} (hg : o.guard = none) (x : Operand) (T : TypeId) (hop : o.op = Op.call { callee := Callee.builtin Builtin.clear, args := #[x], argTypes := #[T] })
    (base g n cap : Nat) (e : TypeId) (z : Value) (xs : List Value) (hown : w.ownsRow base e 1 (.slice (some ⟨g, 0, none⟩) n cap) n xs) (hT : P.underlying T = some (.slice e)) (hv : ∀ w, (zeroValue e).run P w = .ok z w) (hz : z.cells = #[z]) (h1 : z.oneCell' = true)
    (k m M : Nat) (hm : 0 < m) (hkm : k + m ≤ n) (L : Nat) (hvx : a.eval x = .slice (some ⟨g, k, none⟩) L M) (hL : L = m)
    (hK : ∀ w', w'.ownsRow base e 1 (.slice (some ⟨g, 0, none⟩) n cap) n (xs.take k ++ List.replicate m z ++ xs.drop (k + m)) → w.grownBy w' (some g) → wpList P ops Q rest (a.put o.dst (.tuple #[])) w') :
    wpList P ops Q (o :: rest) a w := by
  subst L
  refine wpList_plain hg fun K' hK' => ?_
  obtain ⟨g', cap', cur, ev, hnc, hcm, -, hb, hcs, -⟩ := own_cells hown (by omega)
  injection ev with ev _ ec
  injection ev with ev
  injection ev with ev
  subst ev ec
  have hrun := Lib.run_clear_slice (P := P) w T e o.type z hT hv hz h1 g k m M hm (fun j hj => ((hb.there 0 cur.size (by omega)) (k + j) (by omega)).1 |> fun q => by simpa using q) (fun j hj => hb.free _)
  have hs := own_sets hown (List.replicate m z) k (by simp; omega)
  rw [List.length_replicate] at hs
  unfold Oper.wp
  simp [execOp, hop, resolve, invoke, builtin, hvx, hrun, Result.andThen]
  exact hK' _ _ (hK _ hs (grown_sets g _ k w))
theorem info_u64 : (Try.prog.info? 107).map (fun i => (i.zero, i.size, i.bytes)) = some (some (.int .u64 0), 1, 8) := by kernel_rfl
theorem u64_info : ∃ i, Try.prog.info? 107 = some i ∧ i.zero = some (.int .u64 0) ∧ i.size = 1 ∧ i.bytes = 8 := by
  obtain ⟨i, hi, he⟩ := Option.map_eq_some_iff.1 info_u64
  simp only [Prod.mk.injEq] at he
  exact ⟨i, hi, he.1, he.2.1, he.2.2⟩
theorem zero_u64 (w : World) : (zeroValue 107).run Try.prog w = .ok (.int .u64 0) w := by
  obtain ⟨i, hi, hz, _⟩ := u64_info
  simp [zeroValue, typeInfo, hi, hz]

theorem own_one (w : World) (u : Value) (e : TypeId) : (w.alloc (.cells #[u] e)).ownsRow w.heap.size e 1 (.slice (some ⟨w.heap.size, 0, none⟩) 1 1) 1 [u] := own_new w w.heap.size #[u] e rfl (Nat.le_refl _) (by unfold maxLen; omega)
/-- Rows of unlike types lie in unlike blocks. -/
theorem own_ne {w : World} {b b' : Nat} {e e' : TypeId} {s s' : Nat} {v v' : Value} {n n' : Nat} {xs xs' : List Value} (h : w.ownsRow b e s v n xs) (h' : w.ownsRow b' e' s' v' n' xs') (he : e ≠ e') {g : Nat} (hg : v.ownBlock = some g) : v'.ownBlock ≠ some g := by
  intro hg'
  rcases h.2 with ⟨rfl, _⟩ | ⟨q, cap, cur, rfl, _, hh, _⟩
  · cases hg
  · rcases h'.2 with ⟨rfl, _⟩ | ⟨q', cap', cur', rfl, _, hh', _⟩
    · cases hg'
    · simp only [Value.ownBlock, Option.some.injEq] at hg hg'
      subst hg hg'
      rw [hh] at hh'
      simp only [Option.some.injEq, Obj.cells.injEq] at hh'
      exact he hh'.2.1
end Go.Proofs.Ytlmaelbalmjlbaa
