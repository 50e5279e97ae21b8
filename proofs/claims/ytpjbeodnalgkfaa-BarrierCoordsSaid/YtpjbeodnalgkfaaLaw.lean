/- From a contract to a given statement; opening arguments by their types. Nothing of the program is named here. -/
import Derived.Test.YtpjbeodnalgkfaaKit
import Derived.SizedLaws
import Derived.Carry
import Derived.Deep.Matrix
import Derived.OpenShut
set_option linter.all false
namespace Go.Proofs.Ytpjbeodnalgkfaa
open Go.ChangeShapes Go.WideShapes Go.ChangeAt Go.RowKit

section
variable {H : Type} {enc : TypeId × Value → H}

theorem trodAll_below {P : Program} (hl : laidOutB P = true) {W W' : World} (hb : Below W.heap.size W W') :
    ∀ {ts : List TypeId} {vs : List Value} {ds : List (DataW H)} {ps : List MemPlace}, (∀ t ∈ ts, P.readableRec t = true ∧ t < P.types.size) →
      DataW.TrodAll enc P W 0 (fun _ => true) true ts vs ds ps → (∀ x ∈ ps, x.block < W.heap.size) →
      DataW.TrodAll enc P W' 0 (fun b => decide (b < W.heap.size)) true ts vs ds ps
  | [], [], [], _, _, h, _ => h
  | _ :: _, _ :: _, _ :: _, _, hr, ⟨p, q, h, hs, e⟩, hlt => by
    subst e
    exact ⟨p, q, h.elim (fun f hf => Below.trod hl (hr _ List.mem_cons_self).1 (hr _ List.mem_cons_self).2 ⟨f, hf⟩ hb (fun x hx => hlt x (List.mem_append_left _ hx))),
      trodAll_below hl hb (fun t ht => hr t (List.mem_cons_of_mem _ ht)) hs (fun x hx => hlt x (List.mem_append_right _ hx)), rfl⟩
  | [], _ :: _, _, _, _, h, _ => by simp [DataW.TrodAll] at h
  | [], [], _ :: _, _, _, h, _ => by simp [DataW.TrodAll] at h
  | _ :: _, [], _, _, _, h, _ => by simp [DataW.TrodAll] at h
  | _ :: _, _ :: _, [], _, _, h, _ => by simp [DataW.TrodAll] at h

theorem trodAll_length {P : Program} {W : World} {b : Nat} {sp : Nat → Bool} {hd : Bool} :
    ∀ {ts : List TypeId} {vs : List Value} {ds : List (DataW H)} {ps : List MemPlace}, DataW.TrodAll enc P W b sp hd ts vs ds ps → ds.length = ts.length
  | [], [], [], _, _ => rfl
  | _ :: _, _ :: _, _ :: _, _, ⟨_, _, _, hs, _⟩ => by simp [trodAll_length hs]
  | [], _ :: _, _, _, h => by simp [DataW.TrodAll] at h
  | [], [], _ :: _, _, h => by simp [DataW.TrodAll] at h
  | _ :: _, [], _, _, h => by simp [DataW.TrodAll] at h
  | _ :: _, _ :: _, [], _, h => by simp [DataW.TrodAll] at h

/-- A law: it returns true, and leaves all that was there as it was. -/
theorem law_lifted {C : Checked} {os : Os} {f : FuncId} {fn : Func} {s : ChangeSpec} {tb : TypeId}
    (own : ownKnob C.prog.godebug = none) (started : os.Started) (noInit : C.prog.inits.idxOf? f = none) (hfn : C.prog.funcs[f]? = some fn)
    (witness : ∃ (w : World) (tape : Tape) (i : Input), w.os = os ∧ (w.forCall tape i).Shaped C.prog ∧ i.vars = [] ∧ Input.okWide C.prog (w.forCall tape i) .any w.heap.size f i ∧
      s.pre6 enc C.prog fn [] false (w.forCall tape i).memory i.args ∧ ({} : Assume).holds C.prog (lone (Frame.enter C.prog f i.args .normal) [] (w.forCall tape i)))
    (hvars : s.vars = []) (hres : fn.resultTypes = #[tb]) (htb : C.prog.underlying tb = some .bool) (hl : laidOutB C.prog = true)
    (hp : fn.params.toList.all (fun t => C.prog.readableRec t && decide (t < C.prog.types.size)) = true)
    (hspec : ∀ ds : List (DataW H), ds.length = fn.params.toList.length → s.fn H ds = { results := [.lit (.bool true)], args := ds })
    (contract : ∀ (W : World) (base : Nat) (args : Array Value) (ds : List (DataW H)) (p : List MemPlace),
      (∀ (j : Nat) t v, fn.params[j]? = some t → args[j]? = some v → Value.okWide C.prog W .any base t v) →
      DataW.TrodAll enc C.prog W 0 (fun _ => true) true fn.params.toList args.toList ds p → W.noneFrozen p →
      (DataW.weightsEach C.prog fn.params.toList ds).all (· ≤ reachBytes) = true →
      Calls C.prog f args W fun e W' => e = .returned (.bool true) ∧ Below W.heap.size W W') :
    ReturnsInHanded {} C os f .any (s.pre6 enc C.prog fn [] false) (s.post enc C.prog fn false true false false) := by
  refine returnsInHanded_of_change_sized own started noInit hfn witness ?_
  intro W base args ds gs before hval hW _ hsz _
  have hW' := hW
  obtain ⟨p, q, hA, hV, rfl, hfz, _⟩ := hW
  rw [hvars] at hV
  obtain ⟨rfl, rfl⟩ := trodVars_none hV
  have hlen := trodAll_length hA
  have hvt : s.plain.varTypes C.prog = [] := by simp [ChangeSpec.plain, DataSpec.varTypes, hvars]
  rw [hvt, List.append_nil, List.append_nil] at hsz
  simp only [List.append_nil] at hW'
  refine (contract W base args ds p hval hA (by simpa using hfz) hsz).mono fun e W' ⟨he, hb⟩ => ⟨_, he, ?_⟩
  have hlt : ∀ x ∈ p, x.block < W.heap.size := fun x hx => hW'.lt x hx
  have hr : ∀ t ∈ fn.params.toList, C.prog.readableRec t = true ∧ t < C.prog.types.size := fun t ht => by
    have := List.all_eq_true.1 hp t ht
    simpa using this
  refine ⟨ds, [], p, [], p, [], hW', ?_, ?_, by rw [hvars, List.append_nil, hspec ds hlen]; rfl, World.keptBut_mono (fun x hx => ⟨hx, .inr (.inl hx)⟩) (hb.frame (· ∈ p)), fun h => by cases h⟩
  · rw [List.append_nil, hspec ds hlen, hres]
    exact trodAll_mk1 (shut_bool htb true)
  · rw [List.append_nil, hspec ds hlen]
    exact trodAll_below hl hb hr hA hlt

/-- The numbers of bytes. -/
theorem byte_of {n : Int} (h : (Lit.int .u8 n).wf = true) : n = ((UInt8.ofNat n.toNat).toNat : Int) := by
  have := bounds_u8 h
  rw [UInt8.toNat_ofNat']
  omega

/-- Cells at an address, from 0 on: the address is a plain one. -/
theorem plain_cells {W : World} {a : Addr} {len : Nat} {f : Nat → Value} (h : ∀ i, i < len → W.cell? (a.add i) = some (f i)) {j : Nat} (hj : j < len) :
    ∃ b o, a = ⟨b, o, none⟩ ∧ W.cell? ⟨b, o + j, none⟩ = some (f j) := by
  obtain ⟨b, o, sp⟩ := a
  have h0 := h 0 (by omega)
  have hs := cell_spot h0
  simp only [Addr.add, if_true] at hs
  subst hs
  refine ⟨b, o, rfl, ?_⟩
  rw [← add_plain]
  exact h j hj
theorem bs_of_cells {W : World} {a : Addr} {len : Nat} {zs : List Int} (hl : len ≤ zs.length) (h : ∀ i, i < len → W.cell? (a.add i) = some (.int .u8 (zs.getD i 0))) (hwf : ∀ n ∈ zs, (Lit.int .u8 n).wf = true) :
    Bs W (some a) len ((zs.take len).map fun n => UInt8.ofNat n.toNat) := by
  refine ⟨by simp [bvs, Nat.min_eq_left hl], fun j u hu => ?_⟩
  have hj : j < len := by
    have := (List.getElem?_eq_some_iff.1 hu).1
    simp [bvs] at this
    omega
  have hj2 : j < zs.length := by omega
  obtain ⟨b, o, rfl, hc⟩ := plain_cells h hj
  refine ⟨b, o, rfl, ?_⟩
  rw [hc]
  simp only [bvs, List.map_map, List.getElem?_map, List.getElem?_take, if_pos hj, List.getElem?_eq_getElem hj2, Option.map_some, Function.comp_apply, bv, Option.some.injEq] at hu
  rw [← hu, List.getD, List.getElem?_eq_getElem hj2]
  simp only [Option.getD_some]
  rw [← byte_of (hwf _ (List.getElem_mem hj2))]

/-- Bytes, opened. 'c' is the capacity; the datum's own weight says how great it may be. -/
theorem open_bytes {P : Program} {W : World} {base b0 : Nat} {held : Bool} {r : Reach} {t e : TypeId} {v : Value} {d : DataW H} {ps : List MemPlace}
    (ht : P.underlying t = some (.slice e)) (he : P.underlying e = some (.int .u8)) (hc : P.cellsOf e = 1) (hby : P.bytesOf e = 1)
    (hval : Value.okWide P W r b0 t v) (hd : DataW.Trod enc P W base (fun _ => true) held t v d ps) :
    ∃ A n c xs, v = .slice A n c ∧ Bs W A n xs ∧ n ≤ c ∧ (A = none → n = 0 ∧ c = 0) ∧ c ≤ 9223372036854775807 ∧ ((∀ m ∈ d.weights P t, m ≤ reachBytes) → c ≤ 140737488351232) := by
  obtain ⟨a0, len, cap, rfl⟩ := okWide_slice ht hval
  obtain ⟨fuel, hf⟩ := hd
  rcases open_ints ht he hc hf with ⟨hcs, hx⟩ | ⟨a, l, cp, zs, hcs, _, hlc, hm, hz, hx, hcell, hwf⟩
  · simp only [Value.cells, List.cons.injEq, Value.slice.injEq, and_true] at hcs
    obtain ⟨rfl, rfl, rfl⟩ := hcs
    exact ⟨none, 0, 0, [], rfl, Bs.nil, Nat.le_refl _, fun _ => ⟨rfl, rfl⟩, Nat.zero_le _, fun _ => Nat.zero_le _⟩
  · simp only [Value.cells, List.cons.injEq, Value.slice.injEq, and_true] at hcs
    obtain ⟨rfl, rfl, rfl⟩ := hcs
    simp only [if_true] at hz
    refine ⟨some a, len, cap, (zs.take len).map fun n => UInt8.ofNat n.toNat, rfl, bs_of_cells (by omega) (fun i hi => hcell i (by omega)) hwf, hlc, fun h => (by cases h), by unfold maxLen at hm; omega, fun hw => ?_⟩
    rw [Prod.mk.injEq] at hx
    have := hw ((zs.take len).length * 1 + (zs.drop len).length * 1) (by
      rw [hx.1]
      simp [DataW.weights, ht, hby, lits, Nat.min_eq_left hlc, hz])
    simp only [List.length_take, List.length_drop, hz, Nat.min_eq_left hlc, Nat.mul_one] at this
    have hrb : reachBytes = 140737488351232 := by decide
    rw [hrb] at this
    omega

/-- Rows of bytes, opened. -/
theorem open_bytess {P : Program} {W : World} {base b0 : Nat} {held : Bool} {r : Reach} {t e q : TypeId} {v : Value} {d : DataW H} {ps : List MemPlace}
    (ht : P.underlying t = some (.slice e)) (he : P.underlying e = some (.slice q)) (hq : P.underlying q = some (.int .u8)) (ce : P.cellsOf e = 1) (cq : P.cellsOf q = 1)
    (hval : Value.okWide P W r b0 t v) (hd : DataW.Trod enc P W base (fun _ => true) held t v d ps) :
    ∃ A n c xss, v = .slice A n c ∧ Bss W A n xss ∧ n ≤ c ∧ (A = none → n = 0 ∧ c = 0) ∧ c ≤ 9223372036854775807 := by
  obtain ⟨a0, len, cap, rfl⟩ := okWide_slice ht hval
  obtain ⟨fuel, hf⟩ := hd
  rcases Deep.open_int_rows ht he hq ce cq hf with ⟨hcs, hx⟩ | ⟨a, l, cp, A, L, C, Z, hcs, _, hlc, hm, hx, hrow⟩
  · simp only [Value.cells, List.cons.injEq, Value.slice.injEq, and_true] at hcs
    obtain ⟨rfl, rfl, rfl⟩ := hcs
    exact ⟨none, 0, 0, [], rfl, ⟨rfl, fun j hj => by simp at hj⟩, Nat.le_refl _, fun _ => ⟨rfl, rfl⟩, Nat.zero_le _⟩
  · simp only [Value.cells, List.cons.injEq, Value.slice.injEq, and_true] at hcs
    obtain ⟨rfl, rfl, rfl⟩ := hcs
    unfold maxLen at hm
    refine ⟨some a, len, cap, (List.range len).map fun r => ((Z r).take (L r)).map fun n => UInt8.ofNat n.toNat, rfl, ⟨by simp, fun j hj => ?_⟩, hlc, fun h => (by cases h), by omega⟩
    have hj' : j < len := by simpa using hj
    obtain ⟨b, o, rfl, hc⟩ := plain_cells (f := fun r => .slice (A r) (L r) (C r)) (fun i hi => (hrow i (show i < cap by omega)).1) (show j < cap by omega)
    obtain ⟨_, h1, h2, h3, h4, h5, h6⟩ := hrow j (by omega)
    unfold maxLen at h2
    refine ⟨b, o, A j, L j, C j, rfl, hc, h1, by omega, ?_⟩
    simp only [List.getElem_map, List.getElem_range]
    cases hA : A j with
    | none =>
      have hC := h5 hA
      have hL : L j = 0 := by omega
      rw [hL]
      simpa using Bs.nil
    | some a' =>
      exact bs_of_cells (by omega) (fun i hi => (h6 a' hA).2 i (by omega)) h4

/-- The weight of one argument among all. -/
theorem weight_at {P : Program} {ts : List TypeId} {ds : List (DataW H)} (h : (DataW.weightsEach P ts ds).all (· ≤ reachBytes) = true) {j : Nat} {t : TypeId} {d : DataW H} (ht : ts[j]? = some t) (hd : ds[j]? = some d) :
    ∀ m ∈ d.weights P t, m ≤ reachBytes := fun m hm => by
  have := List.all_eq_true.1 h _ (DataW.weights_mem_each ht hd m hm)
  simpa using this
end
end Go.Proofs.Ytpjbeodnalgkfaa
