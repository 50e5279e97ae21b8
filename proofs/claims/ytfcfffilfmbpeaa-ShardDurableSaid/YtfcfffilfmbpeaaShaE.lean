/- Layer 12: Flush, Freeze, Rollback; Crash. -/
import Derived.Test.YtfcfffilfmbpeaaShaD
set_option linter.all false
namespace Go.Proofs.Ytfcfffilfmbpeaa
open Go.RowKit Go.Maps
namespace Sha
open Blo (vol fun_ GotN AnsN Dat FitB)

/-- A tree more. -/
theorem ShX.gdo {w w' : World} {B b : Nat} {U : Nat → Prop} {s : SS} {k : CS} {v : List Nat} {q' : Root} (h : ShX w B U b s k) (hd : Gdo w w' B U s.n k.f k.uv k.u k.ls v q') : ShX w' B U b s { k with ls := k.ls ++ [q'] } ∧ Fr B U w w' := by
  have hsz := hd.bel.size
  refine ⟨⟨hd.ty.block _ _ _ h.blk fot_shard, {
    gm := hd.gm, base := h.r.base, ub := h.r.ub, ulow := fun j hj => ⟨(h.r.ulow j hj).1, Nat.lt_of_lt_of_le (h.r.ulow j hj).2 hsz⟩
    spare := by have := h.r.spare; simp only [List.length_append, List.length_singleton]; omega
    zero := by show (k.ls ++ [q'])[0]? = _; rw [List.getElem?_append_left h.r.gm.gd.least]; exact h.r.zero
    now := hd.old _ _ h.r.now, sure := hd.old _ _ h.r.sure, orow := own_ty hd.ty fot_change h.r.orow, oout := h.r.oout, ops := h.r.ops, rrow := own_ty hd.ty fot_int h.r.rrow, rout := h.r.rout
    map := by
      obtain ⟨D, ⟨es, clock, e1, r⟩, r2⟩ := h.r.map.own
      exact ⟨D, ⟨es, clock, hd.maps _ _ _ e1, r⟩, r2⟩
    mout := h.r.mout, snaps := h.r.snaps.imp fun a c q => ⟨q.1, hd.old _ _ q.2⟩, ok := h.r.ok }⟩, Fr.ty hd.ty hd.bel hd.maps⟩
theorem ShX.do_ {w : World} {B b : Nat} {U : Nat → Prop} {s : SS} {k : CS} (h : ShX w B U b s k) (r : Nat) (v : List Nat) (hs : Shw s.n k.ls k.u r v) (ch : Chn) (o : BOp) (hch : Cho s.n k.u ch o) (hf : k.ls.length < 3000) :
    Calls Try.prog 34 #[.pointer (some ⟨b, 1, none⟩), .int .i64 (r : Int), .agg (cva ch)] w fun e w' => ∃ q', e = .returned (.int .i64 (k.ls.length : Int)) ∧ Gdo w w' B U s.n k.f k.uv k.u k.ls (apv v o) q' := by
  have h2 : (sha b s k)[1 + 1]? = some (.pointer (some ⟨k.f, 0, none⟩)) := rfl
  exact gdo_ w B s.n k.f b 1 65 (sha b s k) U k.uv k.u k.ls h.blk h.r.gm h2 fot_shard (Nat.le_trans h.r.base (Nat.le_of_lt h.blk.lt)) r v hs ch o hch hf
section
variable (w : World) (B b : Nat) (U : Nat → Prop) (s : SS)
set_option maxRecDepth 100000 in
theorem flush_ (h : Sh w B U b s) : Calls Try.prog 29 #[.pointer (some ⟨b, 0, none⟩)] w fun e w' => e = .returned (.int .i64 0) ∧ Nx w w' B U b (setS s s.now) := by
  obtain ⟨k, h, -⟩ := h
  have c4 := h.cell (j := 4) (u := .int .i64 (k.now : Int)) rfl
  have hst := settle_ w B b U s k h k.now s.now h.r.now
  have hmade := h.made
  clear h
  go_enter Try.func29, Try.ntmps29
  go_wp2_with fail
  refine hmade.mono ?_
  rintro e w' ⟨rfl, rfl⟩
  go_wp2_with fail
  refine hst.mono ?_
  rintro e w2 ⟨rfl, hN⟩
  go_wp2
  go_ret
  exact ⟨rfl, hN⟩
theorem Sh.setFrz {w : World} {B b : Nat} {U : Nat → Prop} {s : SS} (h : Sh w B U b s) (x : Bool) : Nx w (w.setCell ⟨b, 9, none⟩ (.bool x)) B U b { s with frz := x } := by
  obtain ⟨k, h, ht⟩ := h
  have hg := grown_setCell w ⟨b, 9, none⟩ (.bool x)
  have hr := h.r.turnedT hg h.blk (by decide) (by decide) (by decide) (by decide) (by decide) (by decide)
  exact Nx.own h.r.ulow h.r.base h.r.ub hg ⟨k, ⟨h.blk.setCell 9 (.bool x), { gm := hr.gm, base := hr.base, ub := hr.ub, ulow := hr.ulow, spare := hr.spare, zero := hr.zero, now := hr.now, sure := hr.sure, orow := hr.orow, oout := hr.oout, ops := hr.ops, rrow := hr.rrow, rout := hr.rout, map := hr.map, mout := hr.mout, snaps := hr.snaps, ok := hr.ok.frz x }⟩, ht⟩
set_option maxRecDepth 100000 in
theorem freeze_ (x : Bool) (h : Sh w B U b s) : Calls Try.prog 22 #[.pointer (some ⟨b, 0, none⟩), .bool x] w fun e w' => e = .returned (.int .i64 0) ∧ Nx w w' B U b { s with frz := x } := by
  have hN := h.setFrz x
  obtain ⟨k, h, -⟩ := h
  have c9 := h.cell (j := 9) (u := .bool s.frz) rfl
  have f9 := h.blk.free 9
  have hmade := h.made
  clear h
  go_enter Try.func22, Try.ntmps22
  go_wp2_with fail
  refine hmade.mono ?_
  rintro e w' ⟨rfl, rfl⟩
  go_wp2
  go_ret
  exact ⟨rfl, hN⟩
set_option maxRecDepth 100000 in
set_option maxHeartbeats 1000000 in
theorem rollback_ (id : Int) (hi : I64 id) (h : Sh w B U b s) : Calls Try.prog 31 #[.pointer (some ⟨b, 0, none⟩), .int .i64 id] w fun e w' => e = .returned (.int .i64 (roE s id)) ∧ Nx w w' B U b (roS s id) := by
  have hR := Nx.refl h
  obtain ⟨k, h, -⟩ := h
  have c7 := h.cell (j := 7) (u := .map (some k.mb)) rfl
  have c9 := h.cell (j := 9) (u := .bool s.frz) rfl
  have hmade := h.made
  have hhas := has_ w B b U s h id hi
  obtain ⟨r, hr, hsr⟩ := root_look h.r.snaps rfl h.r.zero id
  have hrun := h.r.map.look hi
  rw [hr] at hrun
  have hst := settle_ w B b U s k h r (lookS s id) hsr
  unfold roS roE
  cases hh : hasS s id with
  | false =>
    rw [hh] at hhas
    clear h hst hrun
    go_enter Try.func31, Try.ntmps31
    go_wp2_with fail
    refine hmade.mono ?_
    rintro e w' ⟨rfl, rfl⟩
    go_wp2_with fail
    refine hhas.mono ?_
    rintro e w' ⟨rfl, rfl⟩
    go_wp2
    go_ret
    exact ⟨rfl, hR⟩
  | true =>
    rw [hh] at hhas
    cases hf : s.frz with
    | true =>
      rw [hf] at c9
      clear h hst hrun
      go_enter Try.func31, Try.ntmps31
      go_wp2_with fail
      refine hmade.mono ?_
      rintro e w' ⟨rfl, rfl⟩
      go_wp2_with fail
      refine hhas.mono ?_
      rintro e w' ⟨rfl, rfl⟩
      go_wp2
      go_ret
      exact ⟨rfl, hR⟩
    | false =>
      rw [hf] at c9
      clear h
      go_enter Try.func31, Try.ntmps31
      go_wp2_with fail
      refine hmade.mono ?_
      rintro e w' ⟨rfl, rfl⟩
      go_wp2_with fail
      refine hhas.mono ?_
      rintro e w' ⟨rfl, rfl⟩
      go_wp2_with fail
      refine hst.mono ?_
      rintro e w2 ⟨rfl, hN⟩
      go_wp2
      go_ret
      exact ⟨rfl, hN⟩
end
end Sha
end Go.Proofs.Ytfcfffilfmbpeaa
