/- Layer 11: a stream's records, doubled and mixed up, with losses between. -/
import Derived.Test.YtganoklclnbjkaaLanB1
set_option linter.all false
namespace Go.Proofs.Ytganoklclnbjkaa
open Go.RowKit
namespace Lan
open Str (Rec mayB opOf recOp tailR bldL bareR)
open Blo (I64 apL)
/-- What is there is what was there, and something of the stream comes; or the whole stream is there. -/
structure Half (sn : Int) (v0 : List Nat) (ops : List BOp) (nm : Int) (s : BS) : Prop where
  num : s.num = nm
  vol : s.vol = v0
  c : ∃ j, j ≤ ops.length + 1 ∧ s.c = posA sn v0 ops j
  y : ∃ j, j ≤ ops.length + 1 ∧ s.y = posA sn v0 ops j
structure Done (sn : Int) (v0 : List Nat) (ops : List BOp) (s : BS) : Prop where
  num : s.num = sn
  vol : s.vol = apL v0 ops
  c : s.c = a0
  y : s.y = a0
def Inv (n : Nat) (sh ve sn : Int) (v0 : List Nat) (ops : List BOp) (nm : Int) (s : BS) : Prop := (s.n = n ∧ s.sh = sh ∧ s.ve = ve) ∧ (Half sn v0 ops nm s ∨ Done sn v0 ops s)
section
variable {n : Nat} {hd : Rec} {ops : List BOp} {v0 : List Nat} {nm : Int} {s : BS}
theorem inv_sync {sh ve sn : Int} (h : Inv n sh ve sn v0 ops nm s) : Inv n sh ve sn v0 ops nm (syncS s) := by
  obtain ⟨h1, h | h⟩ := h
  · exact ⟨h1, .inl ⟨h.num, h.vol, h.c, h.c⟩⟩
  · exact ⟨h1, .inr ⟨h.num, h.vol, h.c, h.c⟩⟩
theorem inv_crash {sh ve sn : Int} (h : Inv n sh ve sn v0 ops nm s) : Inv n sh ve sn v0 ops nm (crashS s) := by
  obtain ⟨h1, h | h⟩ := h
  · exact ⟨h1, .inl ⟨h.num, h.vol, h.y, h.y⟩⟩
  · exact ⟨h1, .inr ⟨h.num, h.vol, h.y, h.y⟩⟩
theorem inv_take (hs : Stm n hd ops) (h0 : hd.sn ≠ 0) (h1 : hd.sn ≠ nm) (hba : hd.ba = nm) (hb0 : hd.ba ≠ 0) (hl : v0.length = n) (h : Inv n hd.sh hd.ma hd.sn v0 ops nm s) {i : Nat} {r : Rec} (hr : (bldL hd ops)[i]? = some r) : Inv n hd.sh hd.ma hd.sn v0 ops nm (takS s (i : Int) r) := by
  obtain ⟨⟨g1, g2, g3⟩, h | h⟩ := h
  · obtain ⟨j, hj, hc⟩ := h.c
    have hct : s.c.ct = j := by rw [hc]; exact posA_ct hj
    by_cases hij : i = j
    · subst hij
      rcases bld_at hs.bare hr with ⟨rfl, hrd⟩ | ⟨k, hk, rfl, rfl⟩ | ⟨rfl, rfl⟩
      · subst hrd
        have hc0 : s.c = a0 := hc
        have := (take_head (v0 := v0) hs g1 g2.symm g3.symm hc0 h0 (by rw [h.num]; exact h1) (.inr ⟨by rw [h.num]; exact hba, hb0, h.vol.symm⟩)).2
        rw [show ((0 : Nat) : Int) = 0 from rfl, this]
        exact ⟨⟨g1, g2, g3⟩, .inl ⟨h.num, h.vol, ⟨1, by omega, rfl⟩, h.y⟩⟩
      · rw [(take_op hs g1 hk hc).2]
        exact ⟨⟨g1, g2, g3⟩, .inl ⟨h.num, h.vol, ⟨k + 2, by omega, rfl⟩, h.y⟩⟩
      · rw [(take_tail hs g1 hl hc).2]
        exact ⟨⟨g1, g2, g3⟩, .inr ⟨rfl, rfl, rfl, rfl⟩⟩
    · rw [takS_no (take_other hs hr (by rw [hct]; exact hij))]
      exact ⟨⟨g1, g2, g3⟩, .inl h⟩
  · have hct : s.c.ct = 0 := by rw [h.c]
    have hE : takE s (i : Int) r ≠ 0 := by
      by_cases hi : i = 0
      · subst hi
        rcases bld_at hs.bare hr with ⟨_, rfl⟩ | ⟨k, hk, h2, _⟩ | ⟨h2, _⟩
        · exact take_there hct h.num.symm
        · omega
        · omega
      · exact take_idle hct (by omega)
    rw [takS_no hE]
    exact ⟨⟨g1, g2, g3⟩, .inr h⟩
end
end Lan
end Go.Proofs.Ytganoklclnbjkaa
