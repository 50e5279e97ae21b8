/- What the statements of layer 3 share: alive, does, full. -/
import Derived.Test.YtbppkdfmiegipaaDiskS
import Derived.Test.YtbppkdfmiegipaaShp
namespace Go.Proofs.Ytbppkdfmiegipaa
open Go.ChangeShapes Go.WideShapes Go.ChangeAt Go.RowKit Go.Maps

def al0 : DS := DS.fresh 2
def al1 : DS := { al0 with cache := put al0.cache 0 (some (pad [97])) }
def al2 : DS := { al1 with plate := al1.look, cache := fun _ => none }
def al3 : DS := { al2 with cache := put al2.cache 0 (some (pad [98])) }
def al4 : DS := al3.cut
theorem alw1 : al0.write 0 [97] = (0, al1) := rfl
theorem alw2 : al1.flush = (0, al2) := rfl
theorem alw3 : al2.write 0 [98] = (0, al3) := rfl
theorem alw4 : al3.cut = al4 := rfl
theorem alw5 : (al4.start []).1 = 0 := rfl
theorem alw6 : (al4.start []).2.read 0 = (pad [97], 0) := rfl
theorem al_dirty : al4.dirty = 1 := rfl

set_option maxRecDepth 100000 in
set_option maxHeartbeats 1000000 in
theorem alive_ (w : World) : Calls Try.prog 11 #[] w fun e w' => e = .returned (.bool true) ∧ Below w.heap.size w w' := by
  have kc := fun (w : World) (C : Array Value) (n c g : Nat) (hg : g = w.heap.size) => Joins.run_convert_bytes_const_at (P := Try.prog) w 34 5 C n c g hg Try.underlying34 Try.underlying5
  go_enter Try.func11, Try.ntmps11
  go_wp2_with fail
  refine (new_ 2 w (by decide) (by decide)).mono ?_
  rintro e w1 ⟨g, rfl, hg, h1, hb1⟩
  have hgl := h1.lt
  go_wp2_with fail
  have hx := Bs.new w1 [97] 5 (1, 2)
  refine (write_ g al0 0 _ 1 1 [97] _ (h1.alloc _) hx (fun h => by cases h) (Nat.le_refl _) (fun a ha _ => by cases ha; right; simp; omega)).mono ?_
  rw [alw1]
  rintro e w2 ⟨rfl, h2, ht2⟩
  have hB2 : Below w.heap.size w w2 := (hb1.alloc hb1.size _).trans (ht2.below (by omega) (by simp; omega))
  clear ht2 hx h1 hb1 hgl
  have hl2 := h2.lt
  go_wp2_with fail
  refine (flush_ g al1 _ h2).mono ?_
  rw [alw2]
  rintro e w3 ⟨rfl, h3, ht3⟩
  have hB3 : Below w.heap.size w w3 := hB2.trans (ht3.below (by omega) (by omega))
  clear ht3 h2 hB2 hl2
  have hl3 := h3.lt
  go_wp2_with fail
  have hx := Bs.new w3 [98] 5 (1, 2)
  refine (write_ g al2 0 _ 1 1 [98] _ (h3.alloc _) hx (fun h => by cases h) (Nat.le_refl _) (fun a ha _ => by cases ha; right; simp; omega)).mono ?_
  rw [alw3]
  rintro e w4 ⟨rfl, h4, ht4⟩
  have hB4 : Below w.heap.size w w4 := (hB3.alloc hB3.size _).trans (ht4.below (by omega) (by simp; omega))
  clear ht4 hx h3 hB3 hl3 kc
  have hl4 := h4.lt
  go_wp2_with fail
  refine (cut_ g al3 _ h4).mono ?_
  rw [alw4]
  rintro e w5 ⟨rfl, h5, ht5⟩
  have hB5 : Below w.heap.size w w5 := hB4.trans (ht5.below (by omega) (by omega))
  clear ht5 h4 hB4 hl4
  have hl5 := h5.lt
  go_wp2_with fail
  refine (on_ g al4 _ h5).mono ?_
  rintro e w' ⟨rfl, rfl⟩
  rw [show al4.on = false from rfl]
  go_wp2_with fail
  refine (dirty_ g al4 _ h5).mono ?_
  rw [al_dirty]
  rintro e w' ⟨rfl, rfl⟩
  go_wp2_with fail
  refine (start_ g al4 none 0 0 [] _ h5 Rd.nil (by decide) (fun a ha _ => by cases ha)).mono ?_
  rw [alw5]
  have hrd := alw6
  have hn5 : (al4.start []).2.n = 2 := rfl
  generalize (al4.start []).2 = al5 at *
  have Hr := Lib.hid hrd
  have Hn := Lib.hid hn5
  clear hrd hn5
  rintro e w6 ⟨rfl, h6, ht6⟩
  have hB6 : Below w.heap.size w w6 := hB5.trans (ht6.below (by omega) (by omega))
  clear ht6 h5 hB5 hl5
  go_wp2_with fail
  have hl6 := h6.lt
  refine (read_ g al5 0 _ h6).mono ?_
  rw [Hr.out]
  rintro e w7 ⟨v, rfl, hgot, _, hb7⟩
  have h7 := h6.below hb7
  have hB7 : Below w.heap.size w w7 := hB6.trans (hb7.mono hB6.size)
  obtain ⟨hx, _⟩ | ⟨q, rfl, _, hq, hkq⟩ := hgot
  · cases hx
  have c0 := hkq.cell (j := 0) (u := .int .u8 97) rfl
  go_wp2_with fail
  refine (sectors_ g al5 _ h7).mono ?_
  rw [Hn.out]
  rintro e w' ⟨rfl, rfl⟩
  go_wp2
  go_ret
  exact ⟨rfl, hB7⟩

theorem own_ : ownKnob Try.prog.godebug = none := by kernel_rfl
theorem laidOut_ : laidOutB Try.prog = true := by kernel_rfl
end Go.Proofs.Ytbppkdfmiegipaa
