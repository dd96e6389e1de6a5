/- Layer 15: the walk of SessionOnce. -/
import Derived.Test.YtpjjenhimnkdcaaESxv
namespace Go.Proofs.Ytpjjenhimnkdcaa
open Go.RowKit Go.Maps
set_option linter.unusedVariables false
set_option maxRecDepth 20000

/-- The loop's state. -/
structure RS (w wr : World) (t mb k : Nat) (L : List Bt) (V TD : List Wt) (vt : Value) : Prop where
  os : OS w wr t mb L V TD vt
  e0 : 0 ≤ endL L
  e1 : endL L ≤ 8 * (k : Int)
  len : L.length ≤ k
  tv : TD.length + V.length ≤ k
theorem RS.below {w wr w' : World} {t mb k : Nat} {L : List Bt} {V TD : List Wt} {vt : Value} (h : RS w wr t mb k L V TD vt) (hb : Below wr.heap.size wr w') : RS w w' t mb k L V TD vt := ⟨h.os.below hb, h.e0, h.e1, h.len, h.tv⟩
theorem fnd_bd {w : World} {t mb q : Nat} {L : List Bt} {V : List Wt} {p s : Int} (h : TS w t mb q L V) (hf : (fnd L p s).isSome = true) : 0 ≤ p ∧ p ≤ 2147483647 ∧ 0 ≤ s ∧ s ≤ 2147483647 := by
  cases e : fnd L p s with
  | none => rw [e] at hf; cases hf
  | some b =>
    obtain ⟨hb, rfl, rfl⟩ := fnd_some e
    have := h.ok b hb
    exact ⟨this.p0, this.p1, this.s0, this.s1⟩
theorem once_all {w : World} {t mb q : Nat} {L : List Bt} {V : List Wt} (h : TS w t mb q L V) (hV : ∀ x ∈ V, (fnd L x.p x.s).isSome = true) : V.filter (isD L (endL L)) = V ∧ (V.filter fun x => !isD L (endL L) x) = [] := by
  have hd : ∀ x ∈ V, isD L (endL L) x = true := fun x hx => by
    have h1 := hV x hx
    cases e : fnd L x.p x.s with
    | none => rw [e] at h1; cases h1
    | some b =>
      unfold isD fb
      rw [e]
      exact decide_eq_true (endL_le h.rise h.ok b (fnd_some e).1)
  exact ⟨List.filter_eq_self.2 hd, List.filter_eq_nil_iff.2 fun x hx => by simp [hd x hx]⟩
theorem NuIn.cell {w wr : World} {b off : Nat} {LN : List Int} {k : Nat} {y : Int} (h : NuIn w (some ⟨b, off, none⟩) LN) (hb : Below w.heap.size w wr) (hx : LN[k]? = some y) : wr.cell? ⟨b, off + k, none⟩ = some (.int .i64 y) := by
  obtain ⟨b', off', e, _, d⟩ := h.below hb (Nat.le_refl _) k y hx
  cases e
  exact d
set_option maxHeartbeats 4000000 in
theorem once_walk (a0 a1 : Option Addr) (n0 n1 c0 c1 : Nat) (LI : List (Int × Int)) (LN : List Int) (w : World) (h0 : LI.length = n0) (h1 : LN.length = n1) (hi : IdIn w a0 LI) (hn : NuIn w a1 LN) (hl0 : n0 ≤ 9223372036854775807) (hl1 : n1 ≤ 9223372036854775807) :
    Calls Try.prog 3 #[.slice a0 n0 c0, .slice a1 n1 c1] w fun e w' => e = .returned (.bool true) ∧ Below w.heap.size w w' := by
  have HN : Hid (Calls Try.prog 8 #[.int .i64 ((64 : Nat) : Int)] w (NewE w 64)) := new_ok 64 w (by omega) (by omega)
  have HI : Hid (IdIn w a0 LI ∧ LI.length = n0) := ⟨hi, h0⟩
  have HU : Hid (NuIn w a1 LN ∧ LN.length = n1) := ⟨hn, h1⟩
  clear hi hn h0 h1
  go_enter Try.func3, Try.ntmps3
  go_wp2_with fail
  refine HN.out.mono ?_
  rintro e w1 hNE
  obtain rfl := hNE.ret
  have hLF := LF.new hNE
  have hTS1 := hNE.ts
  clear HN hNE
  obtain ⟨t, ht⟩ : ∃ t, w.heap.size + 1 = t := ⟨_, rfl⟩
  obtain ⟨mb, hmb⟩ : ∃ mb, w.heap.size = mb := ⟨_, rfl⟩
  rw [ht] at hTS1 hLF ⊢
  rw [hmb] at hTS1
  have hLF : LF w w1 t mb := by rw [hmb] at hLF; exact hLF
  have HS1 : Hid (RS w w1 t mb 0 [] [] [] (.slice none 0 0)) := ⟨⟨hTS1, (fun x hx => by cases hx), ⟨rfl, .inl ⟨rfl, rfl⟩⟩, (fun g hg => by simp [Value.ownBlock] at hg), (fun x hx => by cases hx), hLF⟩, by decide, by decide, Nat.le_refl _, Nat.le_refl _⟩
  clear hTS1 hLF ht hmb
  go_upto_region 7 with fail
  go_wp2
  go_loopw [7, 8, 9] (fun at_ v i wr => ∃ (k : Nat) (L : List Bt) (V TD : List Wt), i = .int .i64 (k : Nat) ∧ at_ = .int .i64 (endL L) ∧ k ≤ 100 ∧ RS w wr t mb k L V TD v) (fun _ _ i _ => 100 - (intOf i).toNat)
  case atStart => exact ⟨0, [], [], [], rfl, rfl, by omega, HS1.out⟩
  case round =>
    obtain ⟨k, L, V, TD, rfl, rfl, hk, hRS⟩ := hrel
    obtain ⟨ta, tc, rfl⟩ := hRS.os.told
    have HS : Hid (RS w wr t mb k L V TD (.slice ta TD.length tc)) := hRS
    clear hRS HS1
    by_cases hgo : k < n0 ∧ k < n1 ∧ k < 100
    · obtain ⟨g0, g1, g2⟩ := hgo
      obtain ⟨⟨xp, xs⟩, hx⟩ : ∃ x, LI[k]? = some x := ⟨_, List.getElem?_eq_getElem (by rw [HI.out.2]; exact g0)⟩
      obtain ⟨y, hy⟩ : ∃ y, LN[k]? = some y := ⟨_, List.getElem?_eq_getElem (by rw [HU.out.2]; exact g1)⟩
      obtain ⟨bb, off, rfl, _, d0, d1⟩ := HI.out.1.below HS.out.os.lf.below (Nat.le_refl _) k _ hx
      obtain ⟨bn, offn, rfl, _, d2⟩ := HU.out.1.below HS.out.os.lf.below (Nat.le_refl _) k _ hy
      simp only at d0 d1
      obtain ⟨p, hp, hpe⟩ := andN xp 3 (by omega)
      obtain ⟨s, hs, hse⟩ := andN xs 7 (by omega)
      obtain ⟨m, hm, hme⟩ := andN y 7 (by omega)
      obtain ⟨z, hz, hze⟩ := andN y 15 (by omega)
      have hpe : bits .and .i64 xp 3 = (p : Int) := hpe
      have hse : bits .and .i64 xs 7 = (s : Int) := hse
      have hme : bits .and .i64 y 7 = (m : Int) := hme
      have hze : bits .and .i64 y 15 = (z : Int) := hze
      have i0 : (k : Int) < (n0 : Int) := by omega
      have i1 : (k : Int) < (n1 : Int) := by omega
      have i2 : (k : Int) < 100 := by omega
      have HX : Hid (p ≤ 3 ∧ s ≤ 7 ∧ m ≤ 7 ∧ z ≤ 15) := ⟨hp, hs, hm, hz⟩
      have HY : Hid (LN[k]? = some y) := hy
      obtain ⟨E, hE⟩ : ∃ E, endL L = E := ⟨_, rfl⟩
      have hE0 : 0 ≤ E := by have := HS.out.e0; omega
      have hE1 : E ≤ 8 * (k : Int) := by have := HS.out.e1; omega
      have HE : Hid (endL L = E) := hE
      rw [hE]
      clear hx hy hp hs hm hE
      go_upto_region 9 with fail
      go_region
      clear d0 d1 d2 hpe hse
      obtain ⟨U, hU⟩ : ∃ U, wr.heap.size = U := ⟨_, rfl⟩
      have HP9 : Hid (RS w (wr.alloc (.cells #[.int .i64 (p : Nat), .int .i64 (s : Nat)] 30)).drew t mb k L V TD (.slice ta TD.length tc) ∧ Bk (wr.alloc (.cells #[.int .i64 (p : Nat), .int .i64 (s : Nat)] 30)).drew t mb U (.cells #[.int .i64 (p : Nat), .int .i64 (s : Nat)] 30 (0, 0))) :=
        ⟨HS.out.below (below_ad _ _), by rw [← hU]; exact (Bk.new HS.out.os.ts _ _).kept (TFr.below (below_d _) (HS.out.os.below (below_a _ _)).ts.lt)⟩
      clear HS
      go_upto_region 10 with fail
      try rw [hU]
      generalize (wr.alloc (.cells #[.int .i64 (p : Nat), .int .i64 (s : Nat)] 30)).drew = w9 at HP9
      clear hU
      have d9 := HU.out.1.cell HP9.out.1.os.lf.below HY.out
      obtain ⟨n, hn⟩ : ∃ n, 1 + m = n := ⟨_, rfl⟩
      have hni : (1 : Int) + (m : Int) = (n : Int) := by omega
      have hn1 : 1 ≤ n := by omega
      have hn8 : n ≤ 8 := by have := HX.out.2.2.1; omega
      clear hn
      go_upto_region 11 with fail
      try rw [hni]
      clear hni hme d9
      have z0 : w9.cell? ⟨U, 0, none⟩ = some (.int .i64 (p : Nat)) := by simp [World.cell?, HP9.out.2.blk]
      have z1 : w9.cell? ⟨U, 1, none⟩ = some (.int .i64 (s : Nat)) := by simp [World.cell?, HP9.out.2.blk]
      have hbok : (⟨E, n, 0, p, s⟩ : Bt).OK := ⟨hE0, by show E ≤ _; omega, by show (1 : Int) ≤ (n : Int); omega, by show (n : Int) ≤ 256; omega, by show (0 : Int) ≤ 0; omega, by show (0 : Int) ≤ 2147483647; omega, by show (0 : Int) ≤ (p : Int); omega, by show (p : Int) ≤ _; have := HX.out.1; omega, by show (0 : Int) ≤ (s : Int); omega, by show (s : Int) ≤ _; have := HX.out.2.1; omega⟩
      have HBOK := hide hbok
      have HFN := hide (find_ok w9 t mb 64 L V HP9.out.1.os.ts p s hbok.p0 hbok.p1 hbok.s0 hbok.s1)
      clear hbok
      by_cases hf : (fnd L p s).isSome = true
      · have HF := hide hf
        obtain ⟨c, hc⟩ : ∃ c, fb L p s = c := ⟨_, rfl⟩
        rw [hf, hc] at HFN
        simp only [if_true] at HFN
        have HC := hide hc
        obtain ⟨q0, q1, q2, q3, q4⟩ := c
        clear hf hc
        simp only [Bt.v] at HFN
        go_wp2_with fail
        refine HFN.out.mono ?_
        rintro e w10 ⟨rfl, hb10⟩
        obtain ⟨U1, hU1⟩ : ∃ U1, w10.heap.size = U1 := ⟨_, rfl⟩
        have HP11 : Hid (RS w (w10.alloc (.cells #[.int .i64 q0, .int .i64 q1, .int .i64 q2, .int .i64 q3, .int .i64 q4, .slice none 0 0] 33)) t mb k L V TD (.slice ta TD.length tc) ∧ Bk (w10.alloc (.cells #[.int .i64 q0, .int .i64 q1, .int .i64 q2, .int .i64 q3, .int .i64 q4, .slice none 0 0] 33)) t mb U (.cells #[.int .i64 (p : Nat), .int .i64 (s : Nat)] 30 (0, 0)) ∧ Bk (w10.alloc (.cells #[.int .i64 q0, .int .i64 q1, .int .i64 q2, .int .i64 q3, .int .i64 q4, .slice none 0 0] 33)) t mb U1 (.cells #[.int .i64 q0, .int .i64 q1, .int .i64 q2, .int .i64 q3, .int .i64 q4, .slice none 0 0] 33 (0, 0))) := by
          have h10 := HP9.out.1.below hb10
          have hba := below_a w10 (.cells #[.int .i64 q0, .int .i64 q1, .int .i64 q2, .int .i64 q3, .int .i64 q4, .slice none 0 0] 33)
          exact ⟨h10.below hba, (HP9.out.2.kept (TFr.below hb10 HP9.out.1.os.ts.lt)).kept (TFr.below hba h10.os.ts.lt), by rw [← hU1]; exact Bk.new h10.os.ts _ _⟩
        clear hb10 z0 z1 HFN HP9
        go_upto_region 12 with fail
        try rw [hU1]
        generalize (w10.alloc (.cells #[.int .i64 q0, .int .i64 q1, .int .i64 q2, .int .i64 q3, .int .i64 q4, .slice none 0 0] 33)) = w11 at HP11
        clear hU1
        have z0 : w11.cell? ⟨U, 0, none⟩ = some (.int .i64 (p : Nat)) := by simp [World.cell?, HP11.out.2.1.blk]
        have z1 : w11.cell? ⟨U, 1, none⟩ = some (.int .i64 (s : Nat)) := by simp [World.cell?, HP11.out.2.1.blk]
        go_wp2_with fail
        refine (put_dup w11 t mb 64 L V ⟨E, n, 0, p, s⟩ HP11.out.1.os.ts HBOK.out HF.out).mono ?_
        rintro e w12 ⟨rfl, hb12⟩
        have HP12 : Hid (RS w w12 t mb k L V TD (.slice ta TD.length tc) ∧ Bk w12 t mb U (.cells #[.int .i64 (p : Nat), .int .i64 (s : Nat)] 30 (0, 0)) ∧ Bk w12 t mb U1 (.cells #[.int .i64 q0, .int .i64 q1, .int .i64 q2, .int .i64 q3, .int .i64 q4, .slice none 0 0] 33 (0, 0))) :=
          ⟨HP11.out.1.below hb12, HP11.out.2.1.kept (TFr.below hb12 HP11.out.1.os.ts.lt), HP11.out.2.2.kept (TFr.below hb12 HP11.out.1.os.ts.lt)⟩
        clear hb12 z0 z1 HP11
        have z0 : w12.cell? ⟨U, 0, none⟩ = some (.int .i64 (p : Nat)) := by simp [World.cell?, HP12.out.2.1.blk]
        have z1 : w12.cell? ⟨U, 1, none⟩ = some (.int .i64 (s : Nat)) := by simp [World.cell?, HP12.out.2.1.blk]
        have HFN : Hid (Calls Try.prog 9 #[.pointer (some ⟨t, 0, none⟩), idV p s] w12 fun e w' => e = .returned (.tuple #[.agg #[.int .i64 q0, .int .i64 q1, .int .i64 q2, .int .i64 q3, .int .i64 q4, .slice none 0 0], .int .i64 0]) ∧ Below w12.heap.size w12 w') := by
          have h := find_ok w12 t mb 64 L V HP12.out.1.os.ts p s HBOK.out.p0 HBOK.out.p1 HBOK.out.s0 HBOK.out.s1
          rw [HF.out, HC.out] at h
          exact h
        go_wp2_with fail
        refine HFN.out.mono ?_
        rintro e w13 ⟨rfl, hb13⟩
        obtain ⟨U2, hU2⟩ : ∃ U2, w13.heap.size = U2 := ⟨_, rfl⟩
        have HP13 : Hid (RS w (w13.alloc (.cells #[.int .i64 q0, .int .i64 q1, .int .i64 q2, .int .i64 q3, .int .i64 q4, .slice none 0 0] 33)) t mb k L V TD (.slice ta TD.length tc) ∧ Bk (w13.alloc (.cells #[.int .i64 q0, .int .i64 q1, .int .i64 q2, .int .i64 q3, .int .i64 q4, .slice none 0 0] 33)) t mb U (.cells #[.int .i64 (p : Nat), .int .i64 (s : Nat)] 30 (0, 0)) ∧ Bk (w13.alloc (.cells #[.int .i64 q0, .int .i64 q1, .int .i64 q2, .int .i64 q3, .int .i64 q4, .slice none 0 0] 33)) t mb U1 (.cells #[.int .i64 q0, .int .i64 q1, .int .i64 q2, .int .i64 q3, .int .i64 q4, .slice none 0 0] 33 (0, 0)) ∧ Bk (w13.alloc (.cells #[.int .i64 q0, .int .i64 q1, .int .i64 q2, .int .i64 q3, .int .i64 q4, .slice none 0 0] 33)) t mb U2 (.cells #[.int .i64 q0, .int .i64 q1, .int .i64 q2, .int .i64 q3, .int .i64 q4, .slice none 0 0] 33 (0, 0))) := by
          have h13 := HP12.out.1.below hb13
          have hba := below_a w13 (.cells #[.int .i64 q0, .int .i64 q1, .int .i64 q2, .int .i64 q3, .int .i64 q4, .slice none 0 0] 33)
          have f1 := TFr.below (mb := mb) hb13 HP12.out.1.os.ts.lt
          have f2 := TFr.below (mb := mb) hba h13.os.ts.lt
          exact ⟨h13.below hba, (HP12.out.2.1.kept f1).kept f2, (HP12.out.2.2.kept f1).kept f2, by rw [← hU2]; exact Bk.new h13.os.ts _ _⟩
        clear hb13 z0 z1 HFN HP12
        go_upto_region 18 with fail
        try rw [hU2]
        generalize (w13.alloc (.cells #[.int .i64 q0, .int .i64 q1, .int .i64 q2, .int .i64 q3, .int .i64 q4, .slice none 0 0] 33)) = w14 at HP13
        clear hU2
        obtain ⟨y0, y1, y2, y3, y4, y5⟩ := cells6 HP13.out.2.2.1.blk
        obtain ⟨x0, x1, x2, x3, x4, x5⟩ := cells6 HP13.out.2.2.2.blk
        go_wp2_with fail
        refine (same_ok ⟨q0, q1, q2, q3, q4⟩ w14).mono ?_
        rintro e w15 ⟨rfl, hb15⟩
        have hRS := HP13.out.1.below hb15
        have hBk := HP13.out.2.1.kept (TFr.below hb15 HP13.out.1.os.ts.lt)
        have HT20 : Hid (OS w w15 t mb L V TD (.slice ta TD.length tc) ∧ Bk w15 t mb U (.cells #[.int .i64 (p : Nat), .int .i64 (s : Nat)] 30 (0, 0)) ∧ (fnd L p s).isSome = true ∧ 0 ≤ E ∧ E ≤ 8 * (k : Int) + 8 ∧ endL L = E ∧ L.length ≤ k + 1 ∧ TD.length + V.length ≤ k) := ⟨hRS.os, hBk, HF.out, hE0, by omega, HE.out, by have := hRS.len; omega, hRS.tv⟩
        clear hb15 hRS hBk HP13 y0 y1 y2 y3 y4 y5 x0 x1 x2 x3 x4 x5
        have z0 : w15.cell? ⟨U, 0, none⟩ = some (.int .i64 (p : Nat)) := by simp [World.cell?, HT20.out.2.1.blk]
        have z1 : w15.cell? ⟨U, 1, none⟩ = some (.int .i64 (s : Nat)) := by simp [World.cell?, HT20.out.2.1.blk]
        go_wp2_with fail
        refine (wait_ok w15 t mb 64 L V p s _ HT20.out.1.ts (by omega) (by have := HX.out.1; omega) (by omega) (by have := HX.out.2.1; omega) HT20.out.2.2.1).mono ?_
        rintro e w20 ⟨rfl, hT20, hF20⟩
        obtain ⟨V2, hO20, hV20⟩ := HT20.out.1.waited HT20.out.2.2.1 hF20 hT20
        have d20 := HU.out.1.cell hO20.lf.below HY.out
        have HT21 : Hid (OS w w20 t mb L V2 TD (.slice ta TD.length tc) ∧ V2.length ≤ V.length + 1) := ⟨hO20, hV20⟩
        have HC := hide (done_ok w20 t mb 64 L V2 (E - (z : Int)) hO20.ts hO20.hV)
        clear hO20 hV20 hT20 hF20 z0 z1
        go_wp2_with fail
        refine HC.out.mono ?_
        rintro e w21 ⟨v21, rfl, hr21, hT21, hF21, ha21⟩
        clear HC
        have hO21 := HT21.out.1.done hF21 hT21 (fun x hx => (List.mem_filter.1 hx).1)
        obtain ⟨v22, w22, hrun, hO22⟩ := hO21.app hr21 (fun x hx => HT21.out.1.hV x (List.mem_filter.1 hx).1) (by have h1 := HT21.out.2; have h2 := HT20.out.2.2.2.2.2.2.2; have h3 := List.length_filter_le (isD L (E - (z : Int))) V2; omega)
        obtain ⟨ra, rc, rfl⟩ := rowForm hr21
        obtain ⟨sa, sc, rfl⟩ := hO22.told
        have hNX : RS w w22 t mb (k + 1) L (V2.filter fun x => !isD L (E - (z : Int)) x) (TD ++ V2.filter (isD L (E - (z : Int)))) (.slice sa (TD ++ V2.filter (isD L (E - (z : Int)))).length sc) :=
          ⟨hO22, by have h := HT20.out.2.2.2; rw [h.2.2.1]; exact h.1, by have h := HT20.out.2.2.2; rw [h.2.2.1]; have := h.2.1; omega, HT20.out.2.2.2.2.2.2.1, by have h1 := HT21.out.2; have h2 := HT20.out.2.2.2.2.2.2.2; have h3 := filt_len (isD L (E - (z : Int))) V2; rw [List.length_append]; omega⟩
        have HNX := hide hNX
        have HR := hide hrun
        clear hNX hrun hO21 hO22 hr21 hT21 hF21 ha21
        go_wp2_with (at_builtin; refine wpList_append_run rfl _ _ 28 rfl _ _ _ rfl rfl HR.out ?_)
        go_roundw
        case rel => exact ⟨k + 1, L, (V2.filter fun x => !isD L (E - (z : Int)) x), (TD ++ V2.filter (isD L (E - (z : Int)))), by go_num, by rw [HT20.out.2.2.2.2.2.1], by omega, by have h := HNX.out; rw [List.length_append] at h; exact h⟩
        case measure => simp [intOf]; omega
      · have hfn : fnd L p s = none := by simpa using hf
        have hc : fb L p s = bt0 := by unfold fb; rw [hfn]; rfl
        have HF := hide hfn
        have hif : (if (fnd L p s).isSome = true then (0 : Int) else 3) = 3 := if_neg hf
        rw [hif, hc] at HFN
        clear hf hfn hc hif
        simp only [Bt.v, bt0] at HFN
        go_wp2_with fail
        refine HFN.out.mono ?_
        rintro e w10 ⟨rfl, hb10⟩
        have HP11 : Hid (RS w (w10.alloc (.cells #[.int .i64 0, .int .i64 0, .int .i64 0, .int .i64 0, .int .i64 0, .slice none 0 0] 33)) t mb k L V TD (.slice ta TD.length tc) ∧ Bk (w10.alloc (.cells #[.int .i64 0, .int .i64 0, .int .i64 0, .int .i64 0, .int .i64 0, .slice none 0 0] 33)) t mb U (.cells #[.int .i64 (p : Nat), .int .i64 (s : Nat)] 30 (0, 0))) := by
          have h10 := HP9.out.1.below hb10
          have hba := below_a w10 (.cells #[.int .i64 0, .int .i64 0, .int .i64 0, .int .i64 0, .int .i64 0, .slice none 0 0] 33)
          exact ⟨h10.below hba, (HP9.out.2.kept (TFr.below hb10 HP9.out.1.os.ts.lt)).kept (TFr.below hba h10.os.ts.lt)⟩
        clear hb10 z0 z1 HFN HP9
        go_upto_region 12 with fail
        generalize (w10.alloc (.cells #[.int .i64 0, .int .i64 0, .int .i64 0, .int .i64 0, .int .i64 0, .slice none 0 0] 33)) = w11 at HP11
        have z0 : w11.cell? ⟨U, 0, none⟩ = some (.int .i64 (p : Nat)) := by simp [World.cell?, HP11.out.2.blk]
        have z1 : w11.cell? ⟨U, 1, none⟩ = some (.int .i64 (s : Nat)) := by simp [World.cell?, HP11.out.2.blk]
        go_wp2_with fail
        refine (put_yes w11 t mb 64 L V ⟨E, n, 0, p, s⟩ HP11.out.1.os.ts HBOK.out HF.out (by rw [HE.out]; exact Int.le_refl _) (by have := HP11.out.1.len; omega)).mono ?_
        rintro e w12 ⟨rfl, hT12, hF12⟩
        have hOS := HP11.out.1.os.put hF12 hT12
        have hBk := HP11.out.2.kept hF12
        obtain ⟨L1, hL1⟩ : ∃ L1, L ++ [(⟨E, n, 0, p, s⟩ : Bt)] = L1 := ⟨_, rfl⟩
        have hfd : (fnd L1 p s).isSome = true := by rw [← hL1, fnd_append, HF.out, fnd_one]; simp
        have heL : endL L1 = E + (n : Int) := by rw [← hL1, endL_snoc]; rfl
        have hlL : L1.length ≤ k + 1 := by rw [← hL1]; have := HP11.out.1.len; simp; omega
        rw [hL1] at hOS
        have HT20 : Hid (OS w w12 t mb L1 V TD (.slice ta TD.length tc) ∧ Bk w12 t mb U (.cells #[.int .i64 (p : Nat), .int .i64 (s : Nat)] 30 (0, 0)) ∧ (fnd L1 p s).isSome = true ∧ 0 ≤ (E + (n : Int)) ∧ (E + (n : Int)) ≤ 8 * (k : Int) + 8 ∧ endL L1 = (E + (n : Int)) ∧ L1.length ≤ k + 1 ∧ TD.length + V.length ≤ k) := ⟨hOS, hBk, hfd, by omega, by omega, heL, hlL, HP11.out.1.tv⟩
        clear hOS hBk hfd heL hlL hL1 hT12 hF12 HP11 z0 z1
        have z0 : w12.cell? ⟨U, 0, none⟩ = some (.int .i64 (p : Nat)) := by simp [World.cell?, HT20.out.2.1.blk]
        have z1 : w12.cell? ⟨U, 1, none⟩ = some (.int .i64 (s : Nat)) := by simp [World.cell?, HT20.out.2.1.blk]
        go_wp2_with fail
        refine (wait_ok w12 t mb 64 L1 V p s _ HT20.out.1.ts (by omega) (by have := HX.out.1; omega) (by omega) (by have := HX.out.2.1; omega) HT20.out.2.2.1).mono ?_
        rintro e w20 ⟨rfl, hT20, hF20⟩
        obtain ⟨V2, hO20, hV20⟩ := HT20.out.1.waited HT20.out.2.2.1 hF20 hT20
        have d20 := HU.out.1.cell hO20.lf.below HY.out
        have HT21 : Hid (OS w w20 t mb L1 V2 TD (.slice ta TD.length tc) ∧ V2.length ≤ V.length + 1) := ⟨hO20, hV20⟩
        have HC := hide (done_ok w20 t mb 64 L1 V2 ((E + (n : Int)) - (z : Int)) hO20.ts hO20.hV)
        clear hO20 hV20 hT20 hF20 z0 z1
        go_wp2_with fail
        refine HC.out.mono ?_
        rintro e w21 ⟨v21, rfl, hr21, hT21, hF21, ha21⟩
        clear HC
        have hO21 := HT21.out.1.done hF21 hT21 (fun x hx => (List.mem_filter.1 hx).1)
        obtain ⟨v22, w22, hrun, hO22⟩ := hO21.app hr21 (fun x hx => HT21.out.1.hV x (List.mem_filter.1 hx).1) (by have h1 := HT21.out.2; have h2 := HT20.out.2.2.2.2.2.2.2; have h3 := List.length_filter_le (isD L1 ((E + (n : Int)) - (z : Int))) V2; omega)
        obtain ⟨ra, rc, rfl⟩ := rowForm hr21
        obtain ⟨sa, sc, rfl⟩ := hO22.told
        have hNX : RS w w22 t mb (k + 1) L1 (V2.filter fun x => !isD L1 ((E + (n : Int)) - (z : Int)) x) (TD ++ V2.filter (isD L1 ((E + (n : Int)) - (z : Int)))) (.slice sa (TD ++ V2.filter (isD L1 ((E + (n : Int)) - (z : Int)))).length sc) :=
          ⟨hO22, by have h := HT20.out.2.2.2; rw [h.2.2.1]; exact h.1, by have h := HT20.out.2.2.2; rw [h.2.2.1]; have := h.2.1; omega, HT20.out.2.2.2.2.2.2.1, by have h1 := HT21.out.2; have h2 := HT20.out.2.2.2.2.2.2.2; have h3 := filt_len (isD L1 ((E + (n : Int)) - (z : Int))) V2; rw [List.length_append]; omega⟩
        have HNX := hide hNX
        have HR := hide hrun
        clear hNX hrun hO21 hO22 hr21 hT21 hF21 ha21
        go_wp2_with (at_builtin; refine wpList_append_run rfl _ _ 28 rfl _ _ _ rfl rfl HR.out ?_)
        go_roundw
        case rel => exact ⟨k + 1, L1, (V2.filter fun x => !isD L1 ((E + (n : Int)) - (z : Int)) x), (TD ++ V2.filter (isD L1 ((E + (n : Int)) - (z : Int)))), by go_num, by rw [HT20.out.2.2.2.2.2.1], by omega, by have h := HNX.out; rw [List.length_append] at h; exact h⟩
        case measure => simp [intOf]; omega
    · have hcase : ¬ (k : Int) < (n0 : Int) ∨ ((k : Int) < (n0 : Int) ∧ ¬ (k : Int) < (n1 : Int)) ∨ ((k : Int) < (n0 : Int) ∧ (k : Int) < (n1 : Int) ∧ ¬ (k : Int) < 100) := by omega
      have hE0 := HS.out.e0
      have hE1 := HS.out.e1
      have HC := hide (done_ok wr t mb 64 L V (endL L) HS.out.os.ts HS.out.os.hV)
      obtain ⟨E, hE⟩ : ∃ E, endL L = E := ⟨_, rfl⟩
      have HE : Hid (endL L = E) := hE
      rw [hE] at hE0 hE1 HC ⊢
      clear hE hgo
      rcases hcase with i0 | ⟨i0, i1⟩ | ⟨i0, i1, i2⟩ <;> (
      go_wp2_with fail
      refine HC.out.mono ?_
      rintro e w21 ⟨v21, rfl, hr21, hT21, hF21, ha21⟩
      clear HC
      have hall := once_all HS.out.os.ts HS.out.os.hV
      rw [HE.out] at hall
      rw [hall.1] at hr21
      rw [hall.2] at hT21
      have hO21 := HS.out.os.done hF21 hT21 (fun x hx => by cases hx)
      obtain ⟨v22, w22, hrun, hO22⟩ := hO21.app hr21 HS.out.os.hV (by have h2 := HS.out.tv; omega)
      have hlen : (TD ++ V).length ≤ k := by rw [List.length_append]; exact HS.out.tv
      obtain ⟨ra, rc, rfl⟩ := rowForm hr21
      obtain ⟨sa, sc, rfl⟩ := hO22.told
      generalize TD ++ V = DD at hO22 hlen hrun
      have HO := hide hO22
      have HR := hide hrun
      clear hrun hO21 hO22 hr21 hT21 hF21 ha21 hall
      obtain ⟨d, hd⟩ : ∃ d, DD.length = d := ⟨_, rfl⟩
      rw [hd] at HO HR hlen
      have HDL := hide hd
      clear hd HS
      go_wp2_with (at_builtin; refine wpList_append_run rfl _ _ 28 rfl _ _ _ rfl rfl HR.out ?_)
      clear HR
      go_loopw [17] (fun i wr => ∃ (j : Nat), i = .int .i64 (j : Nat) ∧ j ≤ d ∧ OS w wr t mb L [] DD (.slice sa d sc)) (fun i _ => d - (intOf i).toNat)
      case atStart => exact ⟨0, rfl, Nat.zero_le _, HO.out⟩
      case round =>
        obtain ⟨j, rfl, hj, hO⟩ := hrel
        clear HO
        have HO := hide hO
        clear hO
        by_cases hlt2 : j < d
        · have hlti2 : (j : Int) < (d : Int) := by omega
          obtain ⟨x, hx⟩ : ∃ x, DD[j]? = some x := ⟨_, List.getElem?_eq_getElem (by rw [HDL.out]; exact hlt2)⟩
          have hfd := HO.out.hD x (List.mem_of_getElem? hx)
          have hrow := HO.out.row
          rw [HDL.out] at hrow
          obtain ⟨g, rfl, _⟩ := rowSome hrow (by omega)
          have hbd := fnd_bd HO.out.ts hfd
          have hgt := fun i hi => flat_get (akC L) 6 (fun _ => rfl) DD j x hx i hi
          have HRC := hide (fun i u (e : (acs L DD)[j * 6 + i]? = some u) => rowCell hrow e)
          have HFN := hide (find_ok wr t mb 64 L [] HO.out.ts x.p x.s hbd.1 hbd.2.1 hbd.2.2.1 hbd.2.2.2)
          rw [hfd] at HFN
          simp only [if_true] at HFN
          have k1 : wr.cell? ⟨g, j * 6 + 1, none⟩ = some (.int .i64 x.p) := HRC.out 1 _ ((hgt 1 (by omega)).trans rfl)
          have k2 : wr.cell? ⟨g, j * 6 + 2, none⟩ = some (.int .i64 x.s) := HRC.out 2 _ ((hgt 2 (by omega)).trans rfl)
          have k3 : wr.cell? ⟨g, j * 6 + 3, none⟩ = some (.int .i64 0) := HRC.out 3 _ ((hgt 3 (by omega)).trans rfl)
          have k4 : wr.cell? ⟨g, j * 6 + 4, none⟩ = some (.int .i64 (fb L x.p x.s).base) := HRC.out 4 _ ((hgt 4 (by omega)).trans rfl)
          have k5 : wr.cell? ⟨g, j * 6 + 5, none⟩ = some (.int .i64 (fb L x.p x.s).cnt) := HRC.out 5 _ ((hgt 5 (by omega)).trans rfl)
          clear hx hfd hbd hgt HRC hrow
          generalize fb L x.p x.s = c at HFN k4 k5
          obtain ⟨q0, q1, q2, q3, q4⟩ := c
          obtain ⟨xp, xs, xw⟩ := x
          simp only [Bt.v] at HFN k1 k2 k4 k5
          have HK := hide (And.intro k3 (And.intro k4 k5))
          clear k3 k4 k5
          go_wp2_with fail
          refine HFN.out.mono ?_
          rintro e w30 ⟨rfl, hb30⟩
          have hba := below_a w30 (.cells #[.int .i64 q0, .int .i64 q1, .int .i64 q2, .int .i64 q3, .int .i64 q4, .slice none 0 0] 33)
          obtain ⟨U1, hU1⟩ : ∃ U1, w30.heap.size = U1 := ⟨_, rfl⟩
          have HP30 : Hid (OS w (w30.alloc (.cells #[.int .i64 q0, .int .i64 q1, .int .i64 q2, .int .i64 q3, .int .i64 q4, .slice none 0 0] 33)) t mb L [] DD (.slice (some ⟨g, 0, none⟩) d sc) ∧ (w30.alloc (.cells #[.int .i64 q0, .int .i64 q1, .int .i64 q2, .int .i64 q3, .int .i64 q4, .slice none 0 0] 33)).heap[U1]? = some (.cells #[.int .i64 q0, .int .i64 q1, .int .i64 q2, .int .i64 q3, .int .i64 q4, .slice none 0 0] 33 (0, 0)) ∧ (w30.alloc (.cells #[.int .i64 q0, .int .i64 q1, .int .i64 q2, .int .i64 q3, .int .i64 q4, .slice none 0 0] 33)).cell? ⟨g, j * 6 + 3, none⟩ = some (.int .i64 0) ∧ (w30.alloc (.cells #[.int .i64 q0, .int .i64 q1, .int .i64 q2, .int .i64 q3, .int .i64 q4, .slice none 0 0] 33)).cell? ⟨g, j * 6 + 4, none⟩ = some (.int .i64 q0) ∧ (w30.alloc (.cells #[.int .i64 q0, .int .i64 q1, .int .i64 q2, .int .i64 q3, .int .i64 q4, .slice none 0 0] 33)).cell? ⟨g, j * 6 + 5, none⟩ = some (.int .i64 q1)) :=
            ⟨(HO.out.below hb30).below hba, by rw [← hU1]; exact heap_alloc_new _ _, cellB hba (cellB hb30 HK.out.1), cellB hba (cellB hb30 HK.out.2.1), cellB hba (cellB hb30 HK.out.2.2)⟩
          clear hb30 hba k1 k2 HK HFN
          go_upto_region 27 with fail
          try rw [hU1]
          generalize (w30.alloc (.cells #[.int .i64 q0, .int .i64 q1, .int .i64 q2, .int .i64 q3, .int .i64 q4, .slice none 0 0] 33)) = w31 at HP30
          clear hU1
          obtain ⟨y0, y1, y2, y3, y4, y5⟩ := cells6 HP30.out.2.1
          obtain ⟨HP31, _, k3, k4, k5⟩ := HP30.out
          have HP32 := hide HP31
          clear HP31 y2 y3 y4 y5 HP30
          go_region
          clear k3 k4 k5 y0 y1
          go_wp2
          go_roundw
          case rel => exact ⟨j + 1, by go_num, by omega, HP32.out.below (below_d _)⟩
          case measure => simp [intOf]; omega
        · have hlti2 : ¬ (j : Int) < (d : Int) := by omega
          have HWT : Hid (Calls Try.prog 14 #[.pointer (some ⟨t, 0, none⟩)] wr fun e w' => e = .returned (.int .i64 0) ∧ w' = wr) := waiting_ok wr t mb 64 L [] HO.out.ts
          go_wp2_with fail
          refine HWT.out.mono ?_
          rintro e w8 ⟨rfl, hw8⟩
          obtain rfl := hw8.symm
          clear HWT hw8
          go_wp2_with fail
          refine (awake15 _).mono ?_
          rintro e w9 ⟨rfl, hb9⟩
          have HB9 : Hid (LF w w9 t mb) := (HO.out.below hb9).lf
          clear hb9
          go_wp2
          go_ret
          exact ⟨rfl, HB9.out.below⟩)
end Go.Proofs.Ytpjjenhimnkdcaa
