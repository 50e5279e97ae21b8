/- Layer 10: decode. -/
import Derived.Test.YtofoecpnphoohaaStrG
import Derived.Test.YtofoecpnphoohaaStrB
import Derived.Test.YtofoecpnphoohaaPackT
import Derived.Deep.RegionHeld3
import Derived.Deep.RegionLaw
import Derived.Test.YtofoecpnphoohaaFn
set_option linter.all false
namespace Go.Proofs.Ytofoecpnphoohaa
open Go.RowKit
namespace Str
open Blo (I64)
abbrev ra0 : Array Value := #[.int .i64 0, .int .i64 0, .int .i64 0, .int .i64 0, .int .i64 0, .int .i64 0, .int .i64 0, .slice none 0 0]
theorem results_rec {fn : Func} {W : World} {q k : Nat} {a b c d e f g h : Value} {tmps : Array Value} (hr : fn.results = #[.cell k 39]) (h2 : tmps.getD k undef = .pointer (some ⟨q, 0, none⟩)) (hb : Blk W q 39 #[a, b, c, d, e, f, g, h]) :
    (results fn tmps).run Try.prog W = .ok (.agg #[a, b, c, d, e, f, g, h]) W := by
  have d0 := hb.cell (j := 0) rfl
  have d1 := hb.cell (j := 1) rfl
  have d2 := hb.cell (j := 2) rfl
  have d3 := hb.cell (j := 3) rfl
  have d4 := hb.cell (j := 4) rfl
  have d5 := hb.cell (j := 5) rfl
  have d6 := hb.cell (j := 6) rfl
  have d7 := hb.cell (j := 7) rfl
  have h2' : tmps[k]?.getD undef = .pointer (some ⟨q, 0, none⟩) := by simpa using h2
  simp [results, hr, h2', go_sem, d0, d1, d2, d3, d4, d5, d6, d7]
theorem results_rec2 {fn : Func} {W : World} {q : Nat} {a b c d e f g h : Value} {tmps : Array Value} (hr : fn.results = #[.cell 2 39, .tmp 3]) (h2 : tmps.getD 2 undef = .pointer (some ⟨q, 0, none⟩)) (hb : Blk W q 39 #[a, b, c, d, e, f, g, h]) :
    (results fn tmps).run Try.prog W = .ok (.tuple #[.agg #[a, b, c, d, e, f, g, h], tmps.getD 3 undef]) W := by
  have d0 := hb.cell (j := 0) rfl
  have d1 := hb.cell (j := 1) rfl
  have d2 := hb.cell (j := 2) rfl
  have d3 := hb.cell (j := 3) rfl
  have d4 := hb.cell (j := 4) rfl
  have d5 := hb.cell (j := 5) rfl
  have d6 := hb.cell (j := 6) rfl
  have d7 := hb.cell (j := 7) rfl
  have h2' : tmps[2]?.getD undef = .pointer (some ⟨q, 0, none⟩) := by simpa using h2
  simp [results, hr, h2', go_sem, d0, d1, d2, d3, d4, d5, d6, d7]
theorem results_rec3 {fn : Func} {W : World} {q : Nat} {a b c d e f g h : Value} {tmps : Array Value} (hr : fn.results = #[.cell 2 39, .tmp 3, .tmp 4]) (h2 : tmps.getD 2 undef = .pointer (some ⟨q, 0, none⟩)) (hb : Blk W q 39 #[a, b, c, d, e, f, g, h]) :
    (results fn tmps).run Try.prog W = .ok (.tuple #[.agg #[a, b, c, d, e, f, g, h], tmps.getD 3 undef, tmps.getD 4 undef]) W := by
  have d0 := hb.cell (j := 0) rfl
  have d1 := hb.cell (j := 1) rfl
  have d2 := hb.cell (j := 2) rfl
  have d3 := hb.cell (j := 3) rfl
  have d4 := hb.cell (j := 4) rfl
  have d5 := hb.cell (j := 5) rfl
  have d6 := hb.cell (j := 6) rfl
  have d7 := hb.cell (j := 7) rfl
  have h2' : tmps[2]?.getD undef = .pointer (some ⟨q, 0, none⟩) := by simpa using h2
  simp [results, hr, h2', go_sem, d0, d1, d2, d3, d4, d5, d6, d7]
theorem blk_set7 {w : World} {b : Nat} {t : TypeId} {r : Rec} {d : Value} (h : Blk w b t (ra r d)) (d' : Value) : Blk (w.setCell ⟨b, 7, none⟩ d') b t (ra r d') := h.setCell 7 d'
theorem rs_grown {w w' : World} {br : Nat} {xs : List UInt8} {s : RS} {row : Option Nat} (h : Rs w br xs s) (hg : w.grownBy w' row) (hb : ∀ k, row = some k → br < k) : Rs w' br xs s := by
  obtain ⟨A, n, c, h1, h2, h3, h4⟩ := h
  exact ⟨A, n, c, h1.grown hg (fun e => by have := hb br e.symm; omega), h2.grown hg (fun a ha e => by have := hb a.block e.symm; have := h3 a ha; omega), h3, h4⟩
/-- decode on its way: the result's block, the Reader, the record that is filled. -/
structure Dst (w wr : World) (y : List UInt8) (g br gr : Nat) (s : RS) (r : Rec) (d : Value) : Prop where
  res : Blk wr g 39 ra0
  rd : Rs wr br y s
  cur : Blk wr gr 39 (ra r d)
  dat : wr.ownsRow (gr + 1) 52 1 d r.d.length (nvs r.d)
  gb : g < br
  br : br < gr
  base : w.heap.size ≤ g
  bel : Below w.heap.size w wr
theorem Dst.drew {w wr : World} {y : List UInt8} {g br gr : Nat} {s : RS} {r : Rec} {d : Value} (h : Dst w wr y g br gr s r d) : Dst w wr.drew y g br gr s r d :=
  ⟨h.res, Rr.drewN h.rd 1, h.cur, h.dat, h.gb, h.br, h.base, ⟨h.bel.os, h.bel.tape, h.bel.output, h.bel.size, h.bel.block⟩⟩
theorem Dst.alloc {w wr : World} {y : List UInt8} {g br gr : Nat} {s : RS} {r : Rec} {d : Value} (h : Dst w wr y g br gr s r d) (o : Obj) : Dst w (wr.alloc o) y g br gr s r d :=
  have hb : Below wr.heap.size wr (wr.alloc o) := (Below.refl _ _).alloc (Nat.le_refl _) _
  ⟨h.res.keep hb, Rr.below h.rd hb, h.cur.keep hb, own_keep h.dat hb, h.gb, h.br, h.base, h.bel.alloc h.bel.size _⟩
theorem Dst.below {w wr w2 : World} {y : List UInt8} {g br gr : Nat} {s : RS} {r : Rec} {d : Value} (h : Dst w wr y g br gr s r d) (hb : Below wr.heap.size wr w2) : Dst w w2 y g br gr s r d :=
  ⟨h.res.keep hb, Rr.below h.rd hb, h.cur.keep hb, own_keep h.dat hb, h.gb, h.br, h.base, h.bel.trans (hb.mono h.bel.size)⟩
theorem Dst.get {w wr w2 : World} {y : List UInt8} {g br gr : Nat} {s s' : RS} {r : Rec} {d : Value} (h : Dst w wr y g br gr s r d) (hR : Rs w2 br y s') (hg : wr.grownBy w2 (some br)) : Dst w w2 y g br gr s' r d :=
  have h1 := h.gb
  have h2 := h.br
  have h3 := h.base
  ⟨h.res.grown hg (fun e => by injection e with e; omega), hR, h.cur.grown hg (fun e => by injection e with e; omega),
    own_grown h.dat hg (fun k hk e => by injection e with e; have := (h.dat.lt k hk).1; omega), h.gb, h.br, h.base, h.bel.grown hg h.bel.size (fun k hk => by injection hk with hk; omega)⟩
theorem Dst.push {w wr w3 : World} {y : List UInt8} {g br gr : Nat} {s : RS} {r r' : Rec} {d d' : Value} {l : List Nat} (h : Dst w wr y g br gr s r d) (hg : wr.grownBy w3 d.ownBlock) (hd : w3.ownsRow (gr + 1) 52 1 d' l.length (nvs l)) (hr : ra r' d' = ra { r with d := l } d') (hl : r'.d = l) : Dst w (w3.setCell ⟨gr, 7, none⟩ d') y g br gr s r' d' := by
  have h1 := h.gb
  have h2 := h.br
  have h3 := h.base
  have hlo : ∀ k, d.ownBlock = some k → gr + 1 ≤ k := fun k hk => (h.dat.lt k hk).1
  have hs := grown_setCell w3 ⟨gr, 7, none⟩ d'
  have hcur : Blk w3 gr 39 (ra r d) := h.cur.grown hg (fun e => by have := hlo _ e.symm; omega)
  refine ⟨(h.res.grown hg (fun e => by have := hlo _ e.symm; omega)).grown hs (fun e => by injection e with e; simp only at e; omega), rs_grown (rs_grown h.rd hg (fun k hk => by have := hlo k hk; omega)) hs (fun k hk => by injection hk with hk; simp only at hk; omega), ?_, ?_, h.gb, h.br, h.base, (h.bel.grown hg h.bel.size (fun k hk => by have := hlo k hk; omega)).setCell (by simp only; omega) _⟩
  · have := blk_set7 hcur d'
    rw [hr]
    exact this
  · rw [hl]
    exact own_grown hd hs (fun k hk e => by injection e with e; simp only at e; have := (hd.lt k hk).1; omega)
def drK (y : List UInt8) (k : Nat) : Rec := ⟨iv y 0, iv y 1, iv y 2, iv y 3, iv y 4, iv y 5, iv y 6, gl y k⟩
theorem Dst.row {w wr : World} {y : List UInt8} {g br gr k : Nat} {s : RS} {d : Value} (h : Dst w wr y g br gr s (drK y k) d) : wr.ownsRow (gr + 1) 52 1 d k (nvs (gl y k)) := by
  have := h.dat
  rwa [show (drK y k).d.length = k from gl_length y k] at this
theorem Dst.next {w wr w3 : World} {y : List UInt8} {g br gr i : Nat} {s : RS} {d d' : Value} (h : Dst w wr y g br gr s (drK y i) d) (hg : wr.grownBy w3 d.ownBlock) (hd : w3.ownsRow (gr + 1) 52 1 d' (i + 1) (nvs (gl y i) ++ nvs [gv y i])) : Dst w (w3.setCell ⟨gr, 7, none⟩ d') y g br gr s (drK y (i + 1)) d' := by
  refine h.push hg (l := gl y (i + 1)) ?_ ?_ ?_
  · rw [gl_length, gl, nvs_app]; exact hd
  · unfold drK; rfl
  · unfold drK; rfl
theorem tn_grown {g : Nat} {a b : World} (h : Tn g (g + 1) a b) : a.grownBy b (some g) := ⟨h.os, h.tape, h.output, h.size, fun k hk hne => h.block k hk (by have : k ≠ g := fun e => hne (by rw [e]); omega)⟩
/-- What is left, behind the store of the result. -/
theorem Dst.ends {w wr w4 : World} {y : List UInt8} {br gr nn cd : Nat} {s : RS} {r : Rec} {D : Option Addr} (h : Dst w wr y w.heap.size br gr s r (.slice D nn cd)) (hT : Tn w.heap.size (w.heap.size + 1) wr w4) (hn : nn = r.d.length) : w4.ownsRow w.heap.size 52 1 (.slice D nn cd) nn (nvs r.d) ∧ Below w.heap.size w w4 := by
  have h1 := h.gb
  have h2 := h.br
  have h3 := h.dat
  rw [← hn] at h3
  refine ⟨(own_grown h3 (tn_grown hT) (fun k hk e => by injection e with e; have := (h3.lt k hk).1; omega)).mono (by omega), h.bel.trans (hT.below (Nat.le_refl _) h.bel.size)⟩
def DecA (w w' : World) (e : Ending) (y : List UInt8) : Prop :=
  ∃ X c, e = .returned (.tuple #[.agg (ra (dr y) (.slice X (cnt y) c)), .bool (okD y)]) ∧ w'.ownsRow w.heap.size 52 1 (.slice X (cnt y) c) (cnt y) (nvs (dr y).d) ∧ Below w.heap.size w w'
section
variable (w : World)
theorem sint_ (br : Nat) (y : List UInt8) (k : Nat) (hR : Rs w br y (st y k)) (hy : y.length ≤ 140737488355328) :
    Calls Try.prog 38 #[.pointer (some ⟨br, 0, none⟩), .int .i64 2147483648] w fun e w' => e = .returned (.int .i64 (iv y k : Int)) ∧ Rs w' br y (st y (k + 1)) ∧ w.grownBy w' (some br) :=
  int_ br y (st y k) 2147483648 w hR hy (by omega)
theorem sint64_ (br : Nat) (y : List UInt8) (hR : Rs w br y (st y 7)) (hy : y.length ≤ 140737488355328) :
    Calls Try.prog 38 #[.pointer (some ⟨br, 0, none⟩), .int .i64 64] w fun e w' => e = .returned (.int .i64 (cnt y : Int)) ∧ Rs w' br y (gst y 0) ∧ w.grownBy w' (some br) :=
  int_ br y (st y 7) 64 w hR hy (by omega)
theorem sget_ (br : Nat) (y : List UInt8) (k : Nat) (hR : Rs w br y (gst y k)) (hy : y.length ≤ 140737488355328) :
    Calls Try.prog 55 #[.pointer (some ⟨br, 0, none⟩)] w fun e w' => e = .returned (.int .u64 (gv y k : Int)) ∧ Rs w' br y (gst y (k + 1)) ∧ w.grownBy w' (some br) :=
  get_ br y (gst y k) w hR hy
theorem enters_End (vs : Array Value) (w : World) : (callFunc 56 vs).run Try.prog w = .ok (.enter 56 vs) w := by go_simp
theorem enters_May (vs : Array Value) (w : World) : (callFunc 25 vs).run Try.prog w = .ok (.enter 25 vs) w := by go_simp
theorem size_rec : (Try.prog.info? 39).map (·.size) = some 8 := by kernel_rfl
theorem one_rec (r : Rec) (A : Option Addr) (n c : Nat) : (ra r (.slice A n c)).all (·.oneCell') = true := by simp [Value.oneCell']
abbrev K8 (w : World) (b : Nat) (r : Rec) (d : Value) : Prop := w.cell? ⟨b, 0, none⟩ = some (.int .i64 r.k) ∧ w.cell? ⟨b, 1, none⟩ = some (.int .i64 r.sh) ∧ w.cell? ⟨b, 2, none⟩ = some (.int .i64 r.sn) ∧ w.cell? ⟨b, 3, none⟩ = some (.int .i64 r.ba) ∧ w.cell? ⟨b, 4, none⟩ = some (.int .i64 r.ma) ∧ w.cell? ⟨b, 5, none⟩ = some (.int .i64 r.off) ∧ w.cell? ⟨b, 6, none⟩ = some (.int .i64 r.len) ∧ w.cell? ⟨b, 7, none⟩ = some d
theorem k8 {w : World} {b : Nat} {t : TypeId} {r : Rec} {d : Value} (h : Blk w b t (ra r d)) : K8 w b r d := by
  have := (rc_blk h).all
  simpa only [Nat.zero_add] using this
theorem send1_ (br : Nat) (y : List UInt8) (s : RS) (hR : Rs w br y s) (he : ¬ (rEnd y s).e = 0) :
    Calls Try.prog 56 #[.pointer (some ⟨br, 0, none⟩)] w fun e w' => ∃ p q : Nat, p ≠ 0 ∧ e = .returned (.agg #[.int .i64 (p : Int), .int .i64 (q : Int)]) ∧ Rs w' br y (rEnd y s) ∧ w.grownBy w' (some br) :=
  (end_ br y s w hR).mono fun e w' ⟨h1, h2, h3⟩ => ⟨_, _, he, h1, h2, h3⟩
theorem send_ (br : Nat) (y : List UInt8) (s : RS) (hR : Rs w br y s) (he : (rEnd y s).e = 0) :
    Calls Try.prog 56 #[.pointer (some ⟨br, 0, none⟩)] w fun e w' => e = .returned (.agg #[.int .i64 0, .int .i64 0]) ∧ Rs w' br y (rEnd y s) ∧ w.grownBy w' (some br) :=
  (end_ br y s w hR).mono fun e w' ⟨h1, h2, h3⟩ => ⟨by rw [h1, he, Rr.none_f h2 he]; rfl, h2, h3⟩
set_option maxRecDepth 100000 in
set_option maxHeartbeats 16000000 in
theorem decode_ (A : Option Addr) (n c : Nat) (y : List UInt8) (h : Bs w A n y) (hA : A = none → n = 0 ∧ c = 0) (hnc : n ≤ c) (hc : c ≤ 9223372036854775807) (hn : n ≤ 140737488351300) :
    Calls Try.prog 41 #[.slice A n c] w fun e w' => DecA w w' e y := by
  have hyl : y.length ≤ 140737488355328 := by have := h.len; omega
  have hac := Blk.new w 39 ra0 rfl
  obtain ⟨w1, hw1⟩ : ∃ w1, w.alloc (.cells ra0 39) = w1 := ⟨_, rfl⟩
  have hs1 : w1.heap.size = w.heap.size + 1 := by rw [← hw1]; simp
  have hb1 : Below w.heap.size w w1 := by rw [← hw1]; exact (Below.refl _ _).alloc (Nat.le_refl _) _
  rw [hw1] at hac
  have h1 := h.below hb1
  clear h
  go_enter Try.func41, Try.ntmps41
  go_wp2_with fail
  refine (pnew_ A n c y _ h1 hA hnc hc hn).mono ?_
  rintro e w2 ⟨br, rfl, hbr, hR0, hb2⟩
  have hac2 := hac.keep hb2
  have hB2 := below_step hb1 hb2 (Nat.le_refl _)
  have hs2 := hb2.size
  have hR0 : Rs w2 br y (st y 0) := hR0
  have hgb : w.heap.size < br := by omega
  clear hac hb1 hb2 h1 hw1
  go_wp2_with fail
  refine (sint_ _ br y 0 hR0 hyl).mono ?_
  rintro e w3 ⟨rfl, hR1, hg3⟩
  have hac3 := hac2.grown hg3 (fun e => by injection e with e; omega)
  have hB3 : Below w.heap.size w w3 := hB2.grown hg3 hB2.size (fun q hq => by injection hq with hq; omega)
  clear hR0 hac2 hB2 hg3
  go_wp2_with fail
  refine (sint_ _ br y 1 hR1 hyl).mono ?_
  rintro e w4 ⟨rfl, hR2, hg4⟩
  have hac4 := hac3.grown hg4 (fun e => by injection e with e; omega)
  have hB4 : Below w.heap.size w w4 := hB3.grown hg4 hB3.size (fun q hq => by injection hq with hq; omega)
  clear hR1 hac3 hB3 hg4
  go_wp2_with fail
  refine (sint_ _ br y 2 hR2 hyl).mono ?_
  rintro e w5 ⟨rfl, hR3, hg5⟩
  have hac5 := hac4.grown hg5 (fun e => by injection e with e; omega)
  have hB5 : Below w.heap.size w w5 := hB4.grown hg5 hB4.size (fun q hq => by injection hq with hq; omega)
  clear hR2 hac4 hB4 hg5
  go_wp2_with fail
  refine (sint_ _ br y 3 hR3 hyl).mono ?_
  rintro e w6 ⟨rfl, hR4, hg6⟩
  have hac6 := hac5.grown hg6 (fun e => by injection e with e; omega)
  have hB6 : Below w.heap.size w w6 := hB5.grown hg6 hB5.size (fun q hq => by injection hq with hq; omega)
  clear hR3 hac5 hB5 hg6
  go_wp2_with fail
  refine (sint_ _ br y 4 hR4 hyl).mono ?_
  rintro e w7 ⟨rfl, hR5, hg7⟩
  have hac7 := hac6.grown hg7 (fun e => by injection e with e; omega)
  have hB7 : Below w.heap.size w w7 := hB6.grown hg7 hB6.size (fun q hq => by injection hq with hq; omega)
  clear hR4 hac6 hB6 hg7
  go_wp2_with fail
  refine (sint_ _ br y 5 hR5 hyl).mono ?_
  rintro e w8 ⟨rfl, hR6, hg8⟩
  have hac8 := hac7.grown hg8 (fun e => by injection e with e; omega)
  have hB8 : Below w.heap.size w w8 := hB7.grown hg8 hB7.size (fun q hq => by injection hq with hq; omega)
  clear hR5 hac7 hB7 hg8
  go_wp2_with fail
  refine (sint_ _ br y 6 hR6 hyl).mono ?_
  rintro e w9 ⟨rfl, hR7, hg9⟩
  have hac9 := hac8.grown hg9 (fun e => by injection e with e; omega)
  have hB9 : Below w.heap.size w w9 := hB8.grown hg9 hB8.size (fun q hq => by injection hq with hq; omega)
  clear hR6 hac8 hB8 hg9
  go_wp2_with fail
  obtain ⟨w10, hw10⟩ : ∃ w10, w9.alloc (.cells #[.int .i64 (iv y 0 : Int), .int .i64 (iv y 1 : Int), .int .i64 (iv y 2 : Int), .int .i64 (iv y 3 : Int), .int .i64 (iv y 4 : Int), .int .i64 (iv y 5 : Int), .int .i64 (iv y 6 : Int), .slice none 0 0] 39) = w10 := ⟨_, rfl⟩
  have hs10 : w10.heap.size = w9.heap.size + 1 := by rw [← hw10]; simp
  have hb10 : Below w9.heap.size w9 w10 := by rw [← hw10]; exact (Below.refl _ _).alloc (Nat.le_refl _) _
  have hcur : Blk w10 w9.heap.size 39 (ra (drK y 0) (.slice none 0 0)) := by rw [← hw10]; exact Blk.new w9 _ _ rfl
  have hlt := hR7.lt
  have hD0 : Dst w w10 y w.heap.size br w9.heap.size (st y 7) (drK y 0) (.slice none 0 0) := ⟨hac9.keep hb10, hR7.below hb10, hcur, own_nil _ _ _ _, hgb, hlt, Nat.le_refl _, hB9.trans (hb10.mono hB9.size)⟩
  obtain ⟨gr, hgr⟩ : ∃ gr, w9.heap.size = gr := ⟨_, rfl⟩
  rw [hw10]
  rw [hgr] at hD0 ⊢
  clear hw10 hb10 hcur hlt hR7 hac9 hB9 hgr hs10
  refine (sint64_ _ br y hD0.rd hyl).mono ?_
  rintro e w11 ⟨rfl, hR8, hg11⟩
  have hD1 : Dst w w11 y w.heap.size br gr (gst y 0) (drK y 0) (.slice none 0 0) := hD0.get hR8 hg11
  have hcn := cnt_le y
  have hcn0 : (0 : Int) ≤ (cnt y : Int) := by omega
  clear hD0 hR8 hg11
  go_wp2_with fail
  go_loopw [25] (fun iv wr => ∃ (i : Nat) (d : Value), i ≤ cnt y ∧ iv = .int .i64 (i : Int) ∧ Dst w wr y w.heap.size br gr (gst y i) (drK y i) d) (fun iv _ => cnt y - (intOf iv).toNat)
  case atStart => exact ⟨0, _, Nat.zero_le _, rfl, hD1⟩
  case round =>
    obtain ⟨i, d, hi, rfl, hD⟩ := hrel
    by_cases hlt : i < cnt y
    · have hil : (i : Int) < (cnt y : Int) := by omega
      have hi0 : (0 : Int) ≤ (i : Int) := by omega
      obtain ⟨i0, hi0', hz0, hz1, hz2⟩ := u64_info
      have Hz := Lib.hid hz2
      clear hz2
      have hown : wr.drew.ownsRow (gr + 1) 52 1 d i (nvs (gl y i)) := hD.drew.row
      have hDw := hD.drew
      have hgrb := hDw.cur.lt
      have hbrg := hDw.br
      clear hD
      obtain ⟨D, cd, rfl, hcd, hmd, had⟩ := own_form hown
      go_wp2_with fail
      have c7 := (rc_blk hDw.cur).c7
      simp only [Nat.zero_add] at c7
      go_region_law (first
        | (refine step_app _ rfl (.tmp 28) (.tmp 31) _ rfl (gr + 1) 52 i0 _ 1 8 Try.underlying37 hi0' hz0 hz1 Hz.out rfl Nat.one_pos (.slice D i cd) i _ rfl hown3 _ 1 1 (nvs [gv y i]) rfl (by simp) hnew (nvs_one _) (by unfold maxLen; omega) (by omega) (by omega) ?_
           intro v4 w4 hown4 hg4 hat4
           obtain ⟨A4, c4, rfl, hc4, hm4, hA4⟩ := own_form hown4
           have hk4 : Blk w4 gr 39 (ra (drK y i) (.slice D i cd)) := (hD2.alloc (.cells #[.int .u64 (gv y i : Int)] 52)).cur.grown hg4 (fun e => by have := (hown3.lt gr e.symm).1; omega)
           have e4 := (rc_blk hk4).c7
           simp only [Nat.zero_add] at e4
           have f4 := hk4.free 7
           have hD5 := (hD2.alloc (.cells #[.int .u64 (gv y i : Int)] 52)).next hg4 hown4)
        | (go_simp
           go_at_call 55
           refine (sget_ _ br y i hDw.rd hyl).mono ?_
           rintro e w2 ⟨rfl, hR2, hg2⟩
           have hD2 := hDw.get hR2 hg2
           have e7 := (rc_blk hD2.cur).c7
           have e7' := (rc_blk (hD2.alloc (.cells #[.int .u64 (gv y i : Int)] 52)).cur).c7
           simp only [Nat.zero_add] at e7 e7'
           have hown3 : (w2.alloc (.cells #[.int .u64 (gv y i : Int)] 52)).ownsRow (gr + 1) 52 1 (.slice D i cd) i (nvs (gl y i)) := by
             have := (hD2.alloc (.cells #[.int .u64 (gv y i : Int)] 52)).dat
             rwa [show (drK y i).d.length = i from gl_length y i] at this
           have hnew := (Ns.new w2 [gv y i] (by simp; exact gv_lt y i) 52 rfl (C := #[.int .u64 (gv y i : Int)]) rfl rfl).1
           have hsz2 := hg2.size
           have hsz3 : (w2.alloc (.cells #[.int .u64 (gv y i : Int)] 52)).heap.size = w2.heap.size + 1 := by simp))
      all_goals (
        go_wp2
        go_roundw
        case rel => exact ⟨i + 1, .slice A4 (i + 1) c4, by omega, by go_num, hD5⟩
        case measure => simp [intOf]; omega)
    · have hin : i = cnt y := by omega
      subst hin
      have hown : wr.drew.ownsRow (gr + 1) 52 1 d (cnt y) (nvs (gl y (cnt y))) := hD.drew.row
      have hDw := hD.drew
      clear hD
      obtain ⟨D, cd, rfl, hcd, hmd, had⟩ := own_form hown
      have HR := Lib.hid (show dr y = drK y (cnt y) by unfold dr drK; rfl)
      have hfit : FitR (drK y (cnt y)) := by
        have := iv_le y
        exact ⟨by have := this 0; unfold drK I64; simp only; omega, by have := this 1; unfold drK I64; simp only; omega, by have := this 2; unfold drK I64; simp only; omega, by have := this 3; unfold drK I64; simp only; omega, by have := this 4; unfold drK I64; simp only; omega, by have := this 5; unfold drK I64; simp only; omega, by have := this 6; unfold drK I64; simp only; omega⟩
      have hlow := gl_lt y (cnt y)
      have hgd : (drK y (cnt y)).d = gl y (cnt y) := by unfold drK; dsimp only
      rw [← hgd] at hown hlow
      have HO := Lib.hid (show okD y = (decide ((rEnd y (gst y (cnt y))).e = 0) && mayB (drK y (cnt y))) by unfold okD; rw [HR.out])
      obtain ⟨nn, hnn⟩ : ∃ nn, cnt y = nn := ⟨_, rfl⟩
      rw [hnn] at hlow hown hDw hcd had hcn HR HO hfit
      have Hn := Lib.hid hnn
      clear hgd hi hlt hcn0
      obtain ⟨r, hr⟩ : ∃ r, drK y nn = r := ⟨_, rfl⟩
      obtain ⟨s, hs⟩ : ∃ s, gst y nn = s := ⟨_, rfl⟩
      rw [hr] at hlow hown hDw HR HO hfit
      rw [hs] at hDw HO
      clear hr hs hD1
      unfold maxLen at hmd
      have hnr := Lib.hid (show nn = r.d.length by have := hown.1; simp [nvs] at this; omega)
      have hdt : ∀ {W : World} {s' : RS}, Dst w W y w.heap.size br gr s' r (.slice D nn cd) → Rdt W r D nn cd := fun h => by
        have h2 := h.dat
        rw [← hnr.out] at h2
        exact ⟨no_ns h2 hlow, had, hcd, by omega, by omega, hfit⟩
      rw [hnn]
      by_cases he : (rEnd y s).e = 0
      · go_wp2_with fail
        refine wp_region_noPanic ?_
        refine wp_region_held_drew (S := (fun w' => K8 w' gr r (.slice D nn cd))) (by kernel_rfl) (k8 hDw.cur) (fun _ => ?_)
        refine wpAnyH_take (i := 0) (oi := _) (v := ?_) rfl (by kernel_rfl) (by kernel_rfl) (by kernel_rfl) (fun _ _ _ h => h) (Or.inl ⟨by kernel_rfl, ?_⟩) (k8 hDw.cur) ?_
        rotate_left
        · (rintro w ⟨s0, s1, s2, s3, s4, s5, s6, s7⟩; go_simp; (first | done | rfl))
        try simp only [Act.put, List.getElem_toArray, List.getElem_cons_zero, List.getElem_cons_succ, List.setIfInBounds_toArray, List.set_cons_zero, List.set_cons_succ]
        refine wpAnyH_take (i := 1) (oi := _) (v := ?_) rfl (by kernel_rfl) (by kernel_rfl) (by kernel_rfl) (fun _ _ _ h => h) (Or.inl ⟨by kernel_rfl, ?_⟩) (k8 hDw.cur) ?_
        rotate_left
        · (rintro w ⟨s0, s1, s2, s3, s4, s5, s6, s7⟩; go_simp; (first | done | rfl))
        try simp only [Act.put, List.getElem_toArray, List.getElem_cons_zero, List.getElem_cons_succ, List.setIfInBounds_toArray, List.set_cons_zero, List.set_cons_succ]
        refine wpAnyH_take (i := 3) (oi := _) (v := ?_) rfl (by kernel_rfl) (by kernel_rfl) (by kernel_rfl) (fun _ _ _ h => h) (Or.inl ⟨by kernel_rfl, ?_⟩) (k8 hDw.cur) ?_
        rotate_left
        · (rintro w ⟨s0, s1, s2, s3, s4, s5, s6, s7⟩; go_simp; (first | done | rfl))
        try simp only [Act.put, List.getElem_toArray, List.getElem_cons_zero, List.getElem_cons_succ, List.setIfInBounds_toArray, List.set_cons_zero, List.set_cons_succ]
        refine wpAnyH_ready (rs := [2]) (by kernel_rfl) (by simp) (AllReadyH.cons (o := _) rfl (fun K hK => ?_) AllReadyH.nil)
        rw [if_pos (by kernel_rfl)]
        refine wp_fn 56 _ _ rfl _ rfl enters_End (send_ _ br y s hDw.rd he) ?_
        rintro e w2 ⟨rfl, hR2, hg2⟩
        have hD2 := hDw.get hR2 hg2
        refine ⟨_, rfl, ?_⟩
        refine hK.out _ _ (k8 hD2.cur) (fun _ => ?_)
        clear hK K
        try simp only [Act.put, List.getElem_toArray, List.getElem_cons_zero, List.getElem_cons_succ, List.setIfInBounds_toArray, List.set_cons_zero, List.set_cons_succ]
        refine wpAnyH_take (i := 4) (oi := _) (v := ?_) rfl (by kernel_rfl) (by kernel_rfl) (by kernel_rfl) (fun _ _ _ h => h) (Or.inl ⟨by kernel_rfl, ?_⟩) (k8 hD2.cur) ?_
        rotate_left
        · (rintro w ⟨s0, s1, s2, s3, s4, s5, s6, s7⟩; go_simp; (first | done | rfl))
        try simp only [Act.put, List.getElem_toArray, List.getElem_cons_zero, List.getElem_cons_succ, List.setIfInBounds_toArray, List.set_cons_zero, List.set_cons_succ]
        refine wpAnyH_take (i := 5) (oi := _) (v := ?_) rfl (by kernel_rfl) (by kernel_rfl) (by kernel_rfl) (fun _ _ _ h => h) (Or.inl ⟨by kernel_rfl, ?_⟩) (k8 hD2.cur) ?_
        rotate_left
        · (rintro w ⟨s0, s1, s2, s3, s4, s5, s6, s7⟩; go_simp; (first | done | rfl))
        try simp only [Act.put, List.getElem_toArray, List.getElem_cons_zero, List.getElem_cons_succ, List.setIfInBounds_toArray, List.set_cons_zero, List.set_cons_succ]
        refine wpAnyH_take (i := 6) (oi := _) (v := ?_) rfl (by kernel_rfl) (by kernel_rfl) (by kernel_rfl) (fun _ _ _ h => h) (Or.inl ⟨by kernel_rfl, ?_⟩) (k8 hD2.cur) ?_
        rotate_left
        · (rintro w ⟨s0, s1, s2, s3, s4, s5, s6, s7⟩; go_simp; (first | done | rfl))
        try simp only [Act.put, List.getElem_toArray, List.getElem_cons_zero, List.getElem_cons_succ, List.setIfInBounds_toArray, List.set_cons_zero, List.set_cons_succ]
        refine wpAnyH_ready (rs := [7]) (by kernel_rfl) (by simp) (AllReadyH.cons (o := _) rfl (fun K hK => ?_) AllReadyH.nil)
        rw [if_pos (by kernel_rfl)]
        refine wp_fn 25 _ _ rfl _ rfl enters_May (may1_ _ r D nn cd (hdt hD2)) ?_
        rintro e w3 ⟨rfl, hb3⟩
        have hD3 := hD2.below hb3
        refine ⟨_, rfl, ?_⟩
        refine hK.out _ _ (k8 hD3.cur) (fun _ => ?_)
        clear hK K
        try simp only [Act.put, List.getElem_toArray, List.getElem_cons_zero, List.getElem_cons_succ, List.setIfInBounds_toArray, List.set_cons_zero, List.set_cons_succ]
        refine wpAnyH_take (i := 8) (oi := _) (v := ?_) rfl (by kernel_rfl) (by kernel_rfl) (by kernel_rfl) (fun _ _ _ h => h) (Or.inl ⟨by kernel_rfl, ?_⟩) (k8 hD3.cur) ?_
        rotate_left
        · (rintro w ⟨s0, s1, s2, s3, s4, s5, s6, s7⟩; go_simp; (first | done | rfl))
        try simp only [Act.put, List.getElem_toArray, List.getElem_cons_zero, List.getElem_cons_succ, List.setIfInBounds_toArray, List.set_cons_zero, List.set_cons_succ]
        refine wpAnyH_ready (rs := [9]) (by kernel_rfl) (by simp) (AllReadyH.cons (o := _) rfl (fun K hK => ?_) AllReadyH.nil)
        rw [if_pos (by kernel_rfl)]
        refine wp_store_blk 39 _ _ rfl w.heap.size 39 _ (ra r (.slice D nn cd)) hD3.res rfl rfl rfl size_rec (one_rec _ _ _ _) ?_
        intro w4 hres4 hT4
        have hcur4 := hT4.blk hD3.cur (by have := hD3.gb; have := hD3.br; omega)
        refine hK.out _ _ (k8 hcur4) (fun _ => ?_)
        clear hK K
        try simp only [Act.put, List.getElem_toArray, List.getElem_cons_zero, List.getElem_cons_succ, List.setIfInBounds_toArray, List.set_cons_zero, List.set_cons_succ]
        refine wpAnyH_take (i := 10) (oi := _) (v := ?_) rfl (by kernel_rfl) (by kernel_rfl) (by kernel_rfl) (fun _ _ _ h => h) (Or.inl ⟨by kernel_rfl, ?_⟩) (k8 hcur4) ?_
        rotate_left
        · (rintro w ⟨s0, s1, s2, s3, s4, s5, s6, s7⟩; go_simp; (first | done | rfl))
        try simp only [Act.put, List.getElem_toArray, List.getElem_cons_zero, List.getElem_cons_succ, List.setIfInBounds_toArray, List.set_cons_zero, List.set_cons_succ]
        refine wpAnyH_done (by kernel_rfl) ?_ _
        refine NoPanic.normal ?_
        obtain ⟨hown5, hB5⟩ := hD3.ends hT4 hnr.out
        have HB := Lib.hid (show okD y = mayB r from by rw [HO.out, decide_eq_true he, Bool.true_and])
        clear hcur4 hT4 hD2
        go_wp2
        refine bodyPost_ret (results_rec2 rfl rfl hres4) rfl ?_
        unfold DecA
        rw [HB.out, HR.out, Hn.out]
        exact ⟨D, cd, rfl, hown5, hB5⟩
      · go_wp2_with fail
        refine wp_region_noPanic ?_
        refine wp_region_held_drew (S := (fun w' => K8 w' gr r (.slice D nn cd))) (by kernel_rfl) (k8 hDw.cur) (fun _ => ?_)
        refine wpAnyH_take (i := 0) (oi := _) (v := ?_) rfl (by kernel_rfl) (by kernel_rfl) (by kernel_rfl) (fun _ _ _ h => h) (Or.inl ⟨by kernel_rfl, ?_⟩) (k8 hDw.cur) ?_
        rotate_left
        · (rintro w ⟨s0, s1, s2, s3, s4, s5, s6, s7⟩; go_simp; (first | done | rfl))
        try simp only [Act.put, List.getElem_toArray, List.getElem_cons_zero, List.getElem_cons_succ, List.setIfInBounds_toArray, List.set_cons_zero, List.set_cons_succ]
        refine wpAnyH_take (i := 1) (oi := _) (v := ?_) rfl (by kernel_rfl) (by kernel_rfl) (by kernel_rfl) (fun _ _ _ h => h) (Or.inl ⟨by kernel_rfl, ?_⟩) (k8 hDw.cur) ?_
        rotate_left
        · (rintro w ⟨s0, s1, s2, s3, s4, s5, s6, s7⟩; go_simp; (first | done | rfl))
        try simp only [Act.put, List.getElem_toArray, List.getElem_cons_zero, List.getElem_cons_succ, List.setIfInBounds_toArray, List.set_cons_zero, List.set_cons_succ]
        refine wpAnyH_take (i := 3) (oi := _) (v := ?_) rfl (by kernel_rfl) (by kernel_rfl) (by kernel_rfl) (fun _ _ _ h => h) (Or.inl ⟨by kernel_rfl, ?_⟩) (k8 hDw.cur) ?_
        rotate_left
        · (rintro w ⟨s0, s1, s2, s3, s4, s5, s6, s7⟩; go_simp; (first | done | rfl))
        try simp only [Act.put, List.getElem_toArray, List.getElem_cons_zero, List.getElem_cons_succ, List.setIfInBounds_toArray, List.set_cons_zero, List.set_cons_succ]
        refine wpAnyH_ready (rs := [2]) (by kernel_rfl) (by simp) (AllReadyH.cons (o := _) rfl (fun K hK => ?_) AllReadyH.nil)
        rw [if_pos (by kernel_rfl)]
        refine wp_fn 56 _ _ rfl _ rfl enters_End (send1_ _ br y s hDw.rd he) ?_
        rintro e w2 ⟨p, q, hp0, rfl, hR2, hg2⟩
        have hD2 := hDw.get hR2 hg2
        have hp1 : ((p : Int) == 0) = false := by simp; omega
        have hp2 : ¬ (p : Int) = 0 := by omega
        refine ⟨_, rfl, ?_⟩
        refine hK.out _ _ (k8 hD2.cur) (fun _ => ?_)
        clear hK K
        try simp only [Act.put, List.getElem_toArray, List.getElem_cons_zero, List.getElem_cons_succ, List.setIfInBounds_toArray, List.set_cons_zero, List.set_cons_succ]
        refine wpAnyH_take (i := 4) (oi := _) (v := ?_) rfl (by kernel_rfl) (by kernel_rfl) (by kernel_rfl) (fun _ _ _ h => h) (Or.inl ⟨by kernel_rfl, ?_⟩) (k8 hD2.cur) ?_
        rotate_left
        · (rintro w ⟨s0, s1, s2, s3, s4, s5, s6, s7⟩; go_simp; (first | done | rfl))
        try simp only [Act.put, List.getElem_toArray, List.getElem_cons_zero, List.getElem_cons_succ, List.setIfInBounds_toArray, List.set_cons_zero, List.set_cons_succ]
        refine wpAnyH_take (i := 5) (oi := _) (v := ?_) rfl (by kernel_rfl) (by kernel_rfl) (by kernel_rfl) (fun _ _ _ h => h) (Or.inl ⟨by kernel_rfl, ?_⟩) (k8 hD2.cur) ?_
        rotate_left
        · (rintro w ⟨s0, s1, s2, s3, s4, s5, s6, s7⟩; go_simp; (first | done | rfl))
        try simp only [Act.put, List.getElem_toArray, List.getElem_cons_zero, List.getElem_cons_succ, List.setIfInBounds_toArray, List.set_cons_zero, List.set_cons_succ]
        refine wpAnyH_take (i := 6) (oi := _) (v := undef) rfl (by kernel_rfl) (by kernel_rfl) (by kernel_rfl) (fun _ _ _ h => h) (Or.inr ⟨by kernel_rfl, rfl⟩) (k8 hD2.cur) ?_
        try simp only [Act.put, List.getElem_toArray, List.getElem_cons_zero, List.getElem_cons_succ, List.setIfInBounds_toArray, List.set_cons_zero, List.set_cons_succ]
        refine wpAnyH_take (i := 7) (oi := _) (v := undef) rfl (by kernel_rfl) (by kernel_rfl) (by kernel_rfl) (fun _ _ _ h => h) (Or.inr ⟨by kernel_rfl, rfl⟩) (k8 hD2.cur) ?_
        try simp only [Act.put, List.getElem_toArray, List.getElem_cons_zero, List.getElem_cons_succ, List.setIfInBounds_toArray, List.set_cons_zero, List.set_cons_succ]
        refine wpAnyH_take (i := 8) (oi := _) (v := ?_) rfl (by kernel_rfl) (by kernel_rfl) (by kernel_rfl) (fun _ _ _ h => h) (Or.inl ⟨by kernel_rfl, ?_⟩) (k8 hD2.cur) ?_
        rotate_left
        · (rintro w ⟨s0, s1, s2, s3, s4, s5, s6, s7⟩; go_simp; (first | done | rfl))
        try simp only [Act.put, List.getElem_toArray, List.getElem_cons_zero, List.getElem_cons_succ, List.setIfInBounds_toArray, List.set_cons_zero, List.set_cons_succ]
        refine wpAnyH_ready (rs := [9]) (by kernel_rfl) (by simp) (AllReadyH.cons (o := _) rfl (fun K hK => ?_) AllReadyH.nil)
        rw [if_pos (by kernel_rfl)]
        refine wp_store_blk 39 _ _ rfl w.heap.size 39 _ (ra r (.slice D nn cd)) hD2.res rfl rfl rfl size_rec (one_rec _ _ _ _) ?_
        intro w4 hres4 hT4
        have hcur4 := hT4.blk hD2.cur (by have := hD2.gb; have := hD2.br; omega)
        refine hK.out _ _ (k8 hcur4) (fun _ => ?_)
        clear hK K
        try simp only [Act.put, List.getElem_toArray, List.getElem_cons_zero, List.getElem_cons_succ, List.setIfInBounds_toArray, List.set_cons_zero, List.set_cons_succ]
        refine wpAnyH_take (i := 10) (oi := _) (v := ?_) rfl (by kernel_rfl) (by kernel_rfl) (by kernel_rfl) (fun _ _ _ h => h) (Or.inl ⟨by kernel_rfl, ?_⟩) (k8 hcur4) ?_
        rotate_left
        · (rintro w ⟨s0, s1, s2, s3, s4, s5, s6, s7⟩; go_simp; (first | done | rfl))
        try simp only [Act.put, List.getElem_toArray, List.getElem_cons_zero, List.getElem_cons_succ, List.setIfInBounds_toArray, List.set_cons_zero, List.set_cons_succ]
        refine wpAnyH_done (by kernel_rfl) ?_ _
        refine NoPanic.normal ?_
        obtain ⟨hown5, hB5⟩ := hD2.ends hT4 hnr.out
        have HB := Lib.hid (show okD y = false from by rw [HO.out, decide_eq_false he]; rfl)
        clear hcur4 hT4 hD2
        go_wp2
        refine bodyPost_ret (results_rec2 rfl rfl hres4) rfl ?_
        unfold DecA
        rw [HB.out, HR.out, Hn.out]
        exact ⟨D, cd, rfl, hown5, hB5⟩
end
end Str
end Go.Proofs.Ytofoecpnphoohaa
