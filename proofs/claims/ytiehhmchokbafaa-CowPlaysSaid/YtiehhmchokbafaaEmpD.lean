/- Layer 6: a list in a variable that a closure captures; what emap's closures do; parts hands on what lies there. -/
import Derived.Test.YtiehhmchokbafaaEmpC
import Derived.Deep.DeepCutAuto
import Derived.Deep.CutBlock
set_option linter.all false
namespace Go.Proofs.Ytiehhmchokbafaa
open Go.RowKit

/-- Variable bv, and the list in it, are the call's own, in new memory from B on. -/
structure Held (w : World) (B bv : Nat) (l : List Ext) : Prop where
  new : B ≤ bv
  row : ∃ v n, Blk w bv 42 #[v] ∧ Eo w B v n l
theorem Held.keep {w w' : World} {B bv : Nat} {l : List Ext} (h : Held w B bv l) (hb : Below w.heap.size w w') : Held w' B bv l := by
  obtain ⟨v, n, h1, h2⟩ := h.row
  exact ⟨h.new, v, n, h1.keep hb, own_keep h2 hb⟩
theorem Held.drew {w : World} {B bv : Nat} {l : List Ext} (h : Held w B bv l) : Held w.drew B bv l := ⟨h.new, h.row⟩
theorem Held.drewN {w : World} {B bv : Nat} {l : List Ext} (h : Held w B bv l) (k : Nat) : Held (w.drewN k) B bv l := ⟨h.new, h.row⟩
theorem own_ne {w : World} {B bv n : Nat} {v u : Value} {l : List Ext} (h : Blk w bv 42 #[u]) (k : Eo w B v n l) : v.ownBlock ≠ some bv := by
  rcases k.2 with ⟨rfl, _⟩ | ⟨g, cap, cur, rfl, _, hh, _⟩
  · intro e; cases e
  · intro e
    injection e with e
    subst e
    have h : w.heap[g]? = _ := h
    rw [hh] at h
    simp at h
theorem own_from {w : World} {B n : Nat} {v : Value} {l : List Ext} (k : Eo w B v n l) : ∀ j, v.ownBlock = some j → B ≤ j := fun j hj => (k.lt j hj).1
theorem hold_new {w w2 : World} {B bv n' : Nat} {v' : Value} {l' : List Ext} (hB : B ≤ bv) {cs : Array Value} (hs : cs.size = 1) (h : Blk w2 bv 42 cs) (k : Eo w2 B v' n' l') (hne : v'.ownBlock ≠ some bv) : Held (w2.setCell ⟨bv, 0, none⟩ v') B bv l' := by
  refine ⟨hB, v', n', ?_, ownsRow_setCell_other k hne _⟩
  have := h.setCell 0 v'
  obtain ⟨c, hc⟩ : ∃ c, cs = #[c] := by
    obtain ⟨cl⟩ := cs
    match cl, hs with
    | [c], _ => exact ⟨c, rfl⟩
  subst hc
  exact this

section
variable (w : World)
set_option maxRecDepth 100000 in
set_option maxHeartbeats 1000000 in
theorem keep_ (B bv : Nat) (l : List Ext) (x : Ext) (h : Held w B bv l) (hB : B ≤ w.heap.size) (hn : l.length ≤ 100000) (hm : mays l) (hx : x.may = true) :
    Calls Try.prog 61 #[.agg #[.int .i64 x.off, .int .i64 x.len, .int .i64 x.phys, .int .i64 x.birth], .pointer (some ⟨bv, 0, none⟩)] w fun e w' => e = .returned (.tuple #[]) ∧ Held w' B bv (pushL l x) ∧ Below B w w' := by
  obtain ⟨hbv, v, n, hv, ho⟩ := h
  have hba : Below w.heap.size w (w.alloc (.cells #[.int .i64 x.off, .int .i64 x.len, .int .i64 x.phys, .int .i64 x.birth] 24)) := (Below.refl _ _).alloc (Nat.le_refl _) _
  have hs1 : (w.alloc (.cells #[.int .i64 x.off, .int .i64 x.len, .int .i64 x.phys, .int .i64 x.birth] 24)).heap.size = w.heap.size + 1 := by simp
  have hv1 := hv.keep hba
  have ho1 := own_keep ho hba
  have hne := own_ne hv1 ho1
  have hlt := hv.lt
  have c0 := hv.cell (j := 0) (u := v) rfl
  have hl := eo_len ho
  rw [← hl] at hn
  have Hl := Lib.hid hl
  clear hl ho
  go_enter Try.func61, Try.ntmps61
  go_wp2_with fail
  generalize (w.alloc (.cells #[.int .i64 x.off, .int .i64 x.len, .int .i64 x.phys, .int .i64 x.birth] 24)) = w1 at *
  refine (join_ w1 B v n l x ho1 (by omega) hn hm hx).mono ?_
  rintro e w2 ⟨v2, n2, rfl, ho2, haf⟩
  have hv2 := hv1.grown haf.1 (fun e => hne e.symm)
  have hne2 : v2.ownBlock ≠ some bv := by
    rcases haf.2 with e | ⟨g, e, hg⟩
    · rw [e]; exact hne
    · rw [e]; intro e'; injection e' with e'; omega
  have c2 := hv2.cell (j := 0) (u := v) rfl
  have f2 := hv2.free 0
  have hH := hold_new (w := w) hbv rfl hv2 ho2 hne2
  have hB2 : Below B w w2 := (hba.mono hB).trans (haf.below (by omega) (own_from ho1))
  clear hv hv1 ho1 hne c0
  obtain ⟨A2, cc, rfl, -, -, -⟩ := own_form ho2
  go_wp2
  go_end0
  exact ⟨rfl, hH, hB2.setCell hbv _⟩

set_option maxRecDepth 100000 in
set_option maxHeartbeats 1000000 in
theorem cutf_ (B bv : Nat) (l : List Ext) (x : Ext) (h : Held w B bv l) (hB : B ≤ w.heap.size) (hn : l.length ≤ 100000) (hm : mays l) (hx : x.may = true) :
    Calls Try.prog 63 #[.agg #[.int .i64 x.off, .int .i64 x.len, .int .i64 x.phys, .int .i64 x.birth], .pointer (some ⟨bv, 0, none⟩)] w fun e w' => e = .returned (.tuple #[]) ∧ Held w' B bv (appL l x) ∧ Below B w w' := by
  obtain ⟨i0, hi0, hz0, hz1, hz2⟩ := ext_info
  have Hz := Lib.hid hz2
  clear hz2
  obtain ⟨hbv, v, n, hv, ho⟩ := h
  have hba : Below w.heap.size w (w.alloc (.cells #[.int .i64 x.off, .int .i64 x.len, .int .i64 x.phys, .int .i64 x.birth] 24)) := (Below.refl _ _).alloc (Nat.le_refl _) _
  have hv1 := hv.keep hba
  have ho1 := own_keep ho hba
  have hlt := hv.lt
  have hl := eo_len ho
  rw [← hl] at hn
  have Hl := Lib.hid hl
  clear hl ho
  have c0 := hv.cell (j := 0) (u := v) rfl
  have hb1 : Below (w.heap.size + 1) (w.alloc (.cells #[.int .i64 x.off, .int .i64 x.len, .int .i64 x.phys, .int .i64 x.birth] 24)) ((w.alloc (.cells #[.int .i64 x.off, .int .i64 x.len, .int .i64 x.phys, .int .i64 x.birth] 24)).alloc (.cells #[.int .i64 x.off, .int .i64 x.len, .int .i64 x.phys, .int .i64 x.birth] 24)) := (Below.refl _ _).alloc (by simp) _
  have hv2 := hv1.below hb1 (by omega)
  have ho2 := own_keep ho1 (hb1.mono (by simp))
  have hne := own_ne hv2 ho2
  go_enter Try.func63, Try.ntmps63
  go_wp2_with (first
    | (at_builtin
       go_must (refine wpList_app _ rfl (.tmp 3) (.tmp 5) _ rfl B 24 i0 _ 4 32 Try.underlying42 hi0 hz0 hz1 Hz.out rfl (by decide) v n _ rfl ho2 _ 1 1 (ev x) rfl (fun h => by cases h) (rd_one (by simp)) (by intro u hu; exact evs_one [x] u (by simpa [evs] using hu)) (by unfold maxLen; omega) (by omega) (by simp; omega) ?_)
       intro v3 w3 hown3 hg3 hat3
       have ho3 : Eo w3 B v3 (n + 1) (appL l x) := eo_of hown3 (evs_snoc _ _).symm
       have hv3 := hv2.grown hg3 (fun e => hne e.symm)
       have hne3 : v3.ownBlock ≠ some bv := by
         rcases hat3 with e | e
         · rw [e]; exact hne
         · rw [e]; intro e'; injection e' with e'; simp at e'; omega
       have c3 := hv3.cell (j := 0) (u := v) rfl
       have f3 := hv3.free 0
       have hH := hold_new (w := w) hbv rfl hv3 ho3 hne3
       have hB3 : Below B w w3 := ((hba.mono hB).trans (hb1.mono (by omega))).grown hg3 (by simp; omega) (own_from ho2)
       obtain ⟨A3, cc, rfl, -, -, -⟩ := own_form ho3))
  go_end0
  exact ⟨rfl, hH, hB3.setCell hbv _⟩

set_option maxRecDepth 100000 in
set_option maxHeartbeats 1000000 in
theorem partf_ (B bv : Nat) (l : List Ext) (x : Ext) (h : Held w B bv l) (hB : B ≤ w.heap.size) (hn : l.length ≤ 100000) (hm : mays l) (hx : x.may = true) :
    Calls Try.prog 56 #[.agg #[.int .i64 x.off, .int .i64 x.len, .int .i64 x.phys, .int .i64 x.birth], .pointer (some ⟨bv, 0, none⟩)] w fun e w' => e = .returned (.tuple #[]) ∧ Held w' B bv (appL l x) ∧ Below B w w' := by
  obtain ⟨i0, hi0, hz0, hz1, hz2⟩ := ext_info
  have Hz := Lib.hid hz2
  clear hz2
  obtain ⟨hbv, v, n, hv, ho⟩ := h
  have hba : Below w.heap.size w (w.alloc (.cells #[.int .i64 x.off, .int .i64 x.len, .int .i64 x.phys, .int .i64 x.birth] 24)) := (Below.refl _ _).alloc (Nat.le_refl _) _
  have hv1 := hv.keep hba
  have ho1 := own_keep ho hba
  have hlt := hv.lt
  have hl := eo_len ho
  rw [← hl] at hn
  have Hl := Lib.hid hl
  clear hl ho
  have c0 := hv.cell (j := 0) (u := v) rfl
  have hb1 : Below (w.heap.size + 1) (w.alloc (.cells #[.int .i64 x.off, .int .i64 x.len, .int .i64 x.phys, .int .i64 x.birth] 24)) ((w.alloc (.cells #[.int .i64 x.off, .int .i64 x.len, .int .i64 x.phys, .int .i64 x.birth] 24)).alloc (.cells #[.int .i64 x.off, .int .i64 x.len, .int .i64 x.phys, .int .i64 x.birth] 24)) := (Below.refl _ _).alloc (by simp) _
  have hv2 := hv1.below hb1 (by omega)
  have ho2 := own_keep ho1 (hb1.mono (by simp))
  have hne := own_ne hv2 ho2
  go_enter Try.func56, Try.ntmps56
  go_wp2_with (first
    | (at_builtin
       go_must (refine wpList_app _ rfl (.tmp 3) (.tmp 5) _ rfl B 24 i0 _ 4 32 Try.underlying42 hi0 hz0 hz1 Hz.out rfl (by decide) v n _ rfl ho2 _ 1 1 (ev x) rfl (fun h => by cases h) (rd_one (by simp)) (by intro u hu; exact evs_one [x] u (by simpa [evs] using hu)) (by unfold maxLen; omega) (by omega) (by simp; omega) ?_)
       intro v3 w3 hown3 hg3 hat3
       have ho3 : Eo w3 B v3 (n + 1) (appL l x) := eo_of hown3 (evs_snoc _ _).symm
       have hv3 := hv2.grown hg3 (fun e => hne e.symm)
       have hne3 : v3.ownBlock ≠ some bv := by
         rcases hat3 with e | e
         · rw [e]; exact hne
         · rw [e]; intro e'; injection e' with e'; simp at e'; omega
       have c3 := hv3.cell (j := 0) (u := v) rfl
       have f3 := hv3.free 0
       have hH := hold_new (w := w) hbv rfl hv3 ho3 hne3
       have hB3 : Below B w w3 := ((hba.mono hB).trans (hb1.mono (by omega))).grown hg3 (by simp; omega) (own_from ho2)
       obtain ⟨A3, cc, rfl, -, -, -⟩ := own_form ho3))
  go_end0
  exact ⟨rfl, hH, hB3.setCell hbv _⟩
end
end Go.Proofs.Ytiehhmchokbafaa
