/- Layer 13: arguments: maps, rows of ints. -/
import Derived.Test.YtdcggnfplfgcnaaSmaL
import Derived.Test.YtdcggnfplfgcnaaLaw
set_option linter.all false
namespace Go.Proofs.Ytdcggnfplfgcnaa
open Go.ChangeShapes Go.WideShapes Go.ChangeAt Go.RowKit
namespace Sma

theorem own_ : ownKnob Try.prog.godebug = none := by kernel_rfl
theorem laidOut_ : laidOutB Try.prog = true := by kernel_rfl
def iShp : Shp Int := Shp.int .i64 (-9223372036854775808) 9223372036854775807
abbrev PcV : Type := Int × Int × Int × Unit
def pcShp : Shp PcV := Shp.agg (Shp.pair iShp (Shp.pair iShp (Shp.pair iShp Shp.unit)))
def toPc (v : PcV) : Pc := ⟨v.1, v.2.1, v.2.2.1⟩
theorem pc_is {w : World} {cs : List Value} {v : PcV} (h : pcShp.R w cs v) : cs = pv (toPc v) ∧ Fit (toPc v) := by
  obtain ⟨c1, r1, rfl, hl1, ⟨h1, b1⟩, c2, r2, rfl, hl2, ⟨h2, b2⟩, c3, r3, rfl, hl3, ⟨h3, b3⟩, h5⟩ := h
  have h5 : r3 = [] := h5
  subst h1 h2 h3 h5
  exact ⟨rfl, ⟨b1, b2, b3⟩⟩
theorem pcs_ps {w : World} {A : Option Addr} {n c : Nat} {l : List PcV} (h : (Shp.slice pcShp 24).R w [.slice A n c] l) : Ps w A n (l.map toPc) ∧ n ≤ c ∧ c * 24 ≤ 140737488351232 ∧ (A = none → c = 0) := by
  obtain ⟨A', c', e, h1, h2, h3, h4, h5⟩ := h
  simp only [List.cons.injEq, Value.slice.injEq, and_true] at e
  obtain ⟨rfl, rfl, rfl⟩ := e
  refine ⟨⟨⟨by rw [pvs_len]; simp, fun j u hu => ?_⟩, fun x hx => ?_⟩, h1, h3, h4⟩
  · have hj : j < l.length * 3 := by
      have := (List.getElem?_eq_some_iff.1 hu).1
      rw [pvs_len] at this
      simpa using this
    have hk : j / 3 < l.length := by omega
    obtain ⟨b, o, vs, rfl, hl, hc, hr⟩ := h5 (j / 3) hk
    obtain ⟨rfl, _⟩ := pc_is hr
    refine ⟨b, o, rfl, ?_⟩
    have hu2 : (pvs (l.map toPc))[j / 3 * 3 + j % 3]? = some u := by rw [show j / 3 * 3 + j % 3 = j by omega]; exact hu
    rw [pvs_at (l := l.map toPc) (k := j / 3) (by simpa using hk) (by omega)] at hu2
    simp only [List.getElem_map] at hu2
    have := hc (j % 3) u hu2
    have e4 : pcShp.n = 3 := rfl
    rw [e4, Nat.add_assoc, show j / 3 * 3 + j % 3 = j by omega] at this
    exact this
  · obtain ⟨v, hv, rfl⟩ := List.mem_map.1 hx
    obtain ⟨k, hk, rfl⟩ := List.getElem_of_mem hv
    obtain ⟨b, o, vs, rfl, hl, hc, hr⟩ := h5 k hk
    exact (pc_is hr).2
abbrev MpV : Type := Int × Int × List PcV × Unit
def mpShp : Shp MpV := Shp.agg (Shp.pair iShp (Shp.pair iShp (Shp.pair (Shp.slice pcShp 24) Shp.unit)))
def toMp (v : MpV) : Mp := ⟨v.1, v.2.1, v.2.2.1.map toPc⟩
/-- An argument that is a map. -/
theorem mp_arr {w : World} {cs : Array Value} {v : MpV} (h : mpShp.R w cs.toList v) : ∃ A k c, cs = #[.int .i64 (toMp v).v, .int .i64 (toMp v).n, .slice A k c] ∧ Mr w (toMp v) A k c ∧ c * 24 ≤ 140737488351232 := by
  obtain ⟨c1, r1, e1, hl1, ⟨h1, b1⟩, c2, r2, rfl, hl2, ⟨h2, b2⟩, c3, r3, rfl, hl3, h3, h5⟩ := h
  have h5 : r3 = [] := h5
  subst h1 h2 h5
  have h3' := h3
  obtain ⟨A, c, rfl, -⟩ := h3'
  obtain ⟨hp, hle, hcb, hnil⟩ := pcs_ps h3
  exact ⟨A, _, c, Array.toList_inj.1 (by rw [e1]; rfl), ⟨b1, b2, hp, hle, by omega, hnil⟩, hcb⟩
theorem ops_int : Opens Try.prog 3 iShp := opens_int _ _ Try.underlying3 (by kernel_rfl) wf_i64
theorem ops_pc : Opens Try.prog 72 pcShp :=
  opens_struct Try.underlying72 (by kernel_rfl) (opensF_cons ops_int rfl (opensF_cons ops_int rfl (opensF_cons ops_int rfl (opensF_nil _))))
theorem ops_pcs : Opens Try.prog 22 (Shp.slice pcShp 24) := opens_slice 24 Try.underlying22 (by kernel_rfl) (by kernel_rfl) (by decide) ops_pc
theorem ops_mp : Opens Try.prog 24 mpShp :=
  opens_struct Try.underlying24 (by kernel_rfl) (opensF_cons ops_int rfl (opensF_cons ops_int rfl (opensF_cons ops_pcs rfl (opensF_nil _))))
theorem ops_ints : Opens Try.prog 60 (Shp.slice iShp 8) := opens_slice 8 Try.underlying60 (by kernel_rfl) (by kernel_rfl) (by decide) ops_int
theorem ints_is {w : World} {A : Option Addr} {n c : Nat} {l : List Int} (h : (Shp.slice iShp 8).R w [.slice A n c] l) : Is w A n l ∧ n ≤ c ∧ (A = none → n = 0 ∧ c = 0) ∧ c * 8 ≤ 140737488351232 := by
  obtain ⟨A', c', e, h1, h2, h3, h4, h5⟩ := h
  simp only [List.cons.injEq, Value.slice.injEq, and_true] at e
  obtain ⟨rfl, rfl, rfl⟩ := e
  refine ⟨⟨⟨by simp [ivs], fun j u hu => ?_⟩, fun z hz => ?_⟩, h1, fun h => ⟨by have := h4 h; omega, h4 h⟩, h3⟩
  · have hj : j < l.length := by have := (List.getElem?_eq_some_iff.1 hu).1; simpa [ivs] using this
    obtain ⟨b, o, vs, rfl, hl, hc, hr, _⟩ := h5 j hj
    simp only [ivs, List.getElem?_map, List.getElem?_eq_getElem hj, Option.map_some, Option.some.injEq] at hu
    subst hr
    refine ⟨b, o, rfl, ?_⟩
    have := hc 0 _ rfl
    simp only [iShp, Shp.int, Nat.mul_one, Nat.add_zero] at this
    rw [← hu]
    exact this
  · obtain ⟨j, hj, rfl⟩ := List.getElem_of_mem hz
    obtain ⟨b, o, vs, rfl, hl, hc, hr, hlt⟩ := h5 j hj
    exact hlt
end Sma
end Go.Proofs.Ytdcggnfplfgcnaa
