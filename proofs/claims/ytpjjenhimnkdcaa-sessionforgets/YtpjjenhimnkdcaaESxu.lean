/- Layer 15: Put of a batch that is there already; what a list of acks keeps. -/
import Derived.Test.YtpjjenhimnkdcaaESxm
import Derived.Test.YtpjjenhimnkdcaaESxl
namespace Go.Proofs.Ytpjjenhimnkdcaa
open Go.RowKit Go.Maps
set_option linter.unusedVariables false
set_option maxRecDepth 20000

theorem fnd_grow {L : List Bt} {p s : Int} (b : Bt) (h : (fnd L p s).isSome = true) : fnd (L ++ [b]) p s = fnd L p s := by
  rw [fnd_append]
  cases e : fnd L p s with
  | none => rw [e] at h; cases h
  | some c => rfl
theorem fb_grow {L : List Bt} {p s : Int} (b : Bt) (h : (fnd L p s).isSome = true) : fb (L ++ [b]) p s = fb L p s := by unfold fb; rw [fnd_grow b h]
theorem acs_grow {L : List Bt} {D : List Wt} (b : Bt) (h : ∀ x ∈ D, (fnd L x.p x.s).isSome = true) : acs (L ++ [b]) D = acs L D := by
  induction D with
  | nil => rfl
  | cons x D ih =>
    unfold acs at *
    rw [List.flatMap_cons, List.flatMap_cons, ih (fun y hy => h y (by simp [hy]))]
    unfold akC
    rw [fb_grow b (h x (by simp))]
/-- A row that is none of the table's own grows. -/
theorem TS.grow {w w' : World} {t mb q : Nat} {L : List Bt} {V : List Wt} {row : Option Nat} (h : TS w t mb q L V) (hg : w.grownBy w' row) (hr : ∀ k, row = some k → Ap w t mb k) : TS w' t mb q L V := by
  obtain ⟨ov, wv, h1, h2, h3⟩ := h.blk
  have ht : some t ≠ row := fun e => (hr t e.symm).2.1 rfl
  have hm : some mb ≠ row := fun e => (hr mb e.symm).2.2.1 rfl
  refine ⟨⟨ov, wv, (hg.block t h.lt ht).trans h1, rowBlock h2 fun g hg' => ?_, rowBlock h3 fun g hg' => ?_⟩, h.map.block (hg.block mb h.map.lt hm), h.ok, h.rise, h.uniq, h.lenL, h.lenV, h.hq⟩
  · exact hg.block g (rowLt h2 hg').1 (fun e => ((hr g e.symm).2.2.2 _ _ _ h1).1 (by simpa using hg'))
  · exact hg.block g (rowLt h3 hg').1 (fun e => ((hr g e.symm).2.2.2 _ _ _ h1).2 (by simpa using hg'))
theorem Ap.grow {w w' : World} {t mb k : Nat} {row : Option Nat} (h : Ap w t mb k) (hg : w.grownBy w' row) (ht : some t ≠ row) (hlt : t < w.heap.size) : Ap w' t mb k :=
  ⟨Nat.lt_of_lt_of_le h.1 hg.size, h.2.1, h.2.2.1, fun cs ty m e => h.2.2.2 cs ty m (by rw [← hg.block t hlt ht]; exact e)⟩
/-- What was there ahead of a law's own table is as it was. -/
structure LF (w wr : World) (t mb : Nat) : Prop where
  os : wr.os = w.os
  tape : wr.tape = w.tape
  output : wr.output = w.output
  size : w.heap.size ≤ wr.heap.size
  kept : ∀ k, k < w.heap.size → wr.heap[k]? = w.heap[k]? ∧ Ap wr t mb k
theorem LF.fr {w wr w' : World} {t mb : Nat} (h : LF w wr t mb) (hF : TFr t mb wr w') : LF w w' t mb :=
  ⟨hF.os.trans h.os, hF.tape.trans h.tape, hF.output.trans h.output, Nat.le_trans h.size hF.size, fun k hk => ⟨(hF.kept k (h.kept k hk).2).1.trans (h.kept k hk).1, (hF.kept k (h.kept k hk).2).2⟩⟩
theorem LF.grow {w wr w' : World} {t mb : Nat} {row : Option Nat} (h : LF w wr t mb) (hg : wr.grownBy w' row) (ht : some t ≠ row) (hlt : t < wr.heap.size) (hr : ∀ k, row = some k → w.heap.size ≤ k) : LF w w' t mb :=
  ⟨hg.os.trans h.os, hg.tape.trans h.tape, hg.output.trans h.output, Nat.le_trans h.size hg.size, fun k hk => ⟨(hg.block k (h.kept k hk).2.1 (fun e => by have := hr k e.symm; omega)).trans (h.kept k hk).1, (h.kept k hk).2.grow hg ht hlt⟩⟩
theorem LF.below {w wr : World} {t mb : Nat} (h : LF w wr t mb) : Below w.heap.size w wr := ⟨h.os, h.tape, h.output, h.size, fun k hk => (h.kept k hk).1⟩
theorem LF.new {w w1 : World} {q : Nat} {e : Ending} (h : NewE w q e w1) : LF w w1 (w.heap.size + 1) w.heap.size := ⟨h.bel.os, h.bel.tape, h.bel.output, h.bel.size, fun k hk => ⟨h.bel.block k hk, h.ap k hk⟩⟩
set_option maxHeartbeats 4000000 in
theorem put_dup (w : World) (t mb q : Nat) (L : List Bt) (V : List Wt) (b : Bt) (h : TS w t mb q L V) (ok : b.OK) (hn : (fnd L b.prod b.seq).isSome = true) :
    Calls Try.prog 10 #[.pointer (some ⟨t, 0, none⟩), b.v] w fun e w' => e = .returned (.int .i64 110) ∧ Below w.heap.size w w' := by
  obtain ⟨U, hU⟩ : ∃ U, w.heap.size = U := ⟨_, rfl⟩
  have hbU : (w.alloc (.cells #[.int .i64 b.base, .int .i64 b.cnt, .int .i64 b.view, .int .i64 b.prod, .int .i64 b.seq, .slice none 0 0] 33)).heap[w.heap.size]? = some (.cells #[.int .i64 b.base, .int .i64 b.cnt, .int .i64 b.view, .int .i64 b.prod, .int .i64 b.seq, .slice none 0 0] 33 (0, 0)) := heap_alloc_new _ _
  have HB0 : Below w.heap.size w (w.alloc (.cells #[.int .i64 b.base, .int .i64 b.cnt, .int .i64 b.view, .int .i64 b.prod, .int .i64 b.seq, .slice none 0 0] 33)) := below_a _ _
  have hT := h.below HB0
  rw [hU] at hbU HB0
  generalize hW : (w.alloc (.cells #[.int .i64 b.base, .int .i64 b.cnt, .int .i64 b.view, .int .i64 b.prod, .int .i64 b.seq, .slice none 0 0] 33)) = W at hbU HB0 hT
  have HG : Hid (Calls Try.prog 20 #[.pointer (some ⟨t, 0, none⟩)] W fun e w' => e = .returned (.bool true) ∧ w' = W) := given_yes t W hT.cells.1
  have HC : Hid (∀ W, Calls Try.prog 21 #[b.v] W fun e w' => e = .returned (.int .i64 0) ∧ Below W.heap.size W w') := fun W => bcheck_ok b ok W
  have HT : Hid (TS W t mb q L V ∧ Below U w W ∧ W.heap[U]? = some (.cells #[.int .i64 b.base, .int .i64 b.cnt, .int .i64 b.view, .int .i64 b.prod, .int .i64 b.seq, .slice none 0 0] 33 (0, 0))) := ⟨hT, HB0, hbU⟩
  obtain ⟨y0, y1, y2, y3, y4, y5⟩ := cells6 hbU
  obtain ⟨c, hc⟩ : ∃ c, fb L b.prod b.seq = c := ⟨_, rfl⟩
  have HLK : Hid (∀ W, TS W t mb q L V → (Instr.lookup 52 (.map (some mb)) (.agg #[.int .i64 b.prod, .int .i64 b.seq]) true).run Try.prog W = .ok (.tuple #[c.v, .bool true]) W) := fun W hW => by
    have := (look_m hW.map b.prod b.seq ok.p0 ok.p1 ok.s0 ok.s1).1
    rw [hc, hn] at this
    exact this
  clear h ok hn hT HB0 hbU hc
  obtain ⟨base, cnt, view, prod, seq⟩ := b
  obtain ⟨e0, e1, e2, e3, e4⟩ := c
  simp only [Bt.v] at *
  go_enter Try.func10, Try.ntmps10
  go_wp2_with fail
  try rw [hW]
  try rw [hU]
  clear hW
  refine HG.out.mono ?_
  rintro e w0 ⟨rfl, hw⟩
  obtain rfl := hw.symm
  clear HG hw
  go_wp2_with fail
  refine (HC.out _).mono ?_
  rintro e w1 ⟨rfl, hb1⟩
  have x3 := cellB hb1 y3
  have x4 := cellB hb1 y4
  have HT1 : Hid (TS w1 t mb q L V ∧ Below U w w1 ∧ U ≤ w1.heap.size) := ⟨HT.out.1.below hb1, HT.out.2.1.trans (hb1.mono (Nat.le_of_lt (lt_of_block HT.out.2.2))), by have := lt_of_block HT.out.2.2; have := hb1.size; omega⟩
  clear hb1 HT y0 y1 y2 y3 y4 y5
  obtain ⟨U1, hU1⟩ : ∃ U1, w1.heap.size = U1 := ⟨_, rfl⟩
  have HP2 : Hid (TS (w1.alloc (.cells #[.int .i64 prod, .int .i64 seq] 30)) t mb q L V ∧ Below U w (w1.alloc (.cells #[.int .i64 prod, .int .i64 seq] 30)) ∧ U ≤ (w1.alloc (.cells #[.int .i64 prod, .int .i64 seq] 30)).heap.size ∧ (w1.alloc (.cells #[.int .i64 prod, .int .i64 seq] 30)).heap[U1]? = some (.cells #[.int .i64 prod, .int .i64 seq] 30 (0, 0))) := by
    have hb := below_a w1 (.cells #[.int .i64 prod, .int .i64 seq] 30)
    exact ⟨HT1.out.1.below hb, HT1.out.2.1.trans (hb.mono HT1.out.2.2), Nat.le_trans HT1.out.2.2 hb.size, by rw [← hU1]; exact heap_alloc_new _ _⟩
  go_upto_region 4 with fail
  try rw [hU1]
  generalize (w1.alloc (.cells #[.int .i64 prod, .int .i64 seq] 30)) = w2 at HP2
  have c2 := HP2.out.1.cells.2.2
  have c21 := fun o => cellB (below_ad w2 o) c2
  have l20 := HLK.out _ (HP2.out.1.below (below_d w2))
  have l21 := fun o => HLK.out _ (HP2.out.1.below (below_ad w2 o))
  have z0 : w2.cell? ⟨U1, 0, none⟩ = some (.int .i64 prod) := by simp [World.cell?, HP2.out.2.2.2]
  have z1 : w2.cell? ⟨U1, 1, none⟩ = some (.int .i64 seq) := by simp [World.cell?, HP2.out.2.2.2]
  have z01 := fun o => cellB (below_ad w2 o) z0
  have z11 := fun o => cellB (below_ad w2 o) z1
  clear hU1 x3 x4 HT1
  go_region
  have HB3 : Hid (Below U w (w2.alloc (.cells #[.int .i64 e0, .int .i64 e1, .int .i64 e2, .int .i64 e3, .int .i64 e4, .slice none 0 0] 33)).drew) := HP2.out.2.1.trans ((below_ad w2 _).mono HP2.out.2.2.1)
  clear c2 c21 l20 l21 z0 z1 z01 z11
  go_upto_region 5 with fail
  generalize (w2.alloc (.cells #[.int .i64 e0, .int .i64 e1, .int .i64 e2, .int .i64 e3, .int .i64 e4, .slice none 0 0] 33)).drew = w3 at HB3
  go_region
  go_wp2
  go_ret
  exact ⟨rfl, by rw [hU]; exact bl_drew.2 HB3.out⟩
end Go.Proofs.Ytpjjenhimnkdcaa
