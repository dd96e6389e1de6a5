/- Layer 15: who waits: slices.Index, slices.Contains; one more who waits: the memory's side. -/
/- Layer 15: Wait. -/
/- Layer 15: Done. -/
/- Layer 15: awake. -/
import Derived.Test.YtpjjenhimnkdcaaV09
namespace Go.Proofs.Ytpjjenhimnkdcaa
open Go.RowKit Go.Maps
set_option linter.unusedVariables false
set_option maxRecDepth 20000

def eqW (a b : Wt) : Bool := (a.p == b.p) && ((a.s == b.s) && (a.who == b.who))
def hasW (V : List Wt) (x : Wt) : Bool := V.any (eqW x)
theorem eqW_iff (a b : Wt) : eqW a b = true ↔ a = b := by
  obtain ⟨a1, a2, a3⟩ := a
  obtain ⟨b1, b2, b3⟩ := b
  simp [eqW]
theorem hasW_iff (V : List Wt) (x : Wt) : hasW V x = true ↔ x ∈ V := by
  unfold hasW
  rw [List.any_eq_true]
  constructor
  · rintro ⟨y, hy, e⟩; rw [(eqW_iff x y).1 e]; exact hy
  · intro h; exact ⟨x, h, (eqW_iff x x).2 rfl⟩
abbrev wtV (p s who : Int) : Value := .agg #[.int .i64 p, .int .i64 s, .int .i64 who]
theorem run_eqlW (a b c a' b' c' : Int) (w : World) :
    (binOp .eql 63 (.agg #[.int .i64 a, .int .i64 b, .int .i64 c]) (.agg #[.int .i64 a', .int .i64 b', .int .i64 c'])).run Try.prog w = .ok (.bool (eqW ⟨a, b, c⟩ ⟨a', b', c'⟩)) w := by
  have h2 : (Op.equalIn 10000 63 (.agg #[.int .i64 a, .int .i64 b, .int .i64 c]) (.agg #[.int .i64 a', .int .i64 b', .int .i64 c'])).run Try.prog w = .ok (eqW ⟨a, b, c⟩ ⟨a', b', c'⟩) w := by
    rw [run_equalIn_struct w 9999 _ _ _ (by kernel_rfl) (by kernel_rfl)]
    simp only [Program.fieldsOf, Try.underlying63]
    simp [Op.eqFields, go_sem]
    unfold eqW
    by_cases h1 : a = a'
    · by_cases h2 : b = b'
      · by_cases h3 : c = c' <;> simp [h1, h2, h3]
      · simp [h1, h2]
    · simp [h1]
  rw [run_eql_struct, h2]
  rfl
/-- One more who waits. -/
theorem TS.wait {w w2 : World} {t mb q g cap : Nat} {L : List Bt} {V : List Wt} {x : Wt} {o : Obj} (h : TS w t mb q L V) (hlen : V.length < q)
    {wa : Option Addr} {wc : Nat} {ov : Value} (hblk : w.heap[t]? = some (.cells #[.pointer (some ⟨t, 0, none⟩), .int .i64 (q : Nat), .map (some mb), ov, .slice wa V.length wc] 55 (0, 0)))
    (hown : w2.ownsRow 0 63 3 (.slice (some ⟨g, 0, none⟩) (V.length + 1) cap) (V.length + 1) (wcs V ++ [.int .i64 x.p, .int .i64 x.s, .int .i64 x.who])) (hg2 : (w.alloc o).grownBy w2 (Value.slice wa V.length wc).ownBlock) (hat : (Value.slice wa V.length wc).ownBlock = some g ∨ g = (w.alloc o).heap.size) :
    TS (w2.setCell ⟨t, 4, none⟩ (.slice (some ⟨g, 0, none⟩) (V.length + 1) cap)) t mb q L (V ++ [x]) ∧ TFr t mb w (w2.setCell ⟨t, 4, none⟩ (.slice (some ⟨g, 0, none⟩) (V.length + 1) cap)) := by
  obtain ⟨ov', wv', h1, h2, h3⟩ := h.blk
  rw [hblk] at h1
  cases h1
  have hta := h.apart
  have ht := h.lt
  have hba := below_a w o
  have htb2 : (w.alloc o).heap[t]? = w.heap[t]? := hba.block t ht
  have hovt : (Value.slice wa V.length wc).ownBlock ≠ some t := rowNe h3 hblk (by decide)
  have htb3 : w2.heap[t]? = some (.cells #[.pointer (some ⟨t, 0, none⟩), .int .i64 (q : Nat), .map (some mb), ov, .slice wa V.length wc] 55 (0, 0)) :=
    (hg2.block t (Nat.lt_of_lt_of_le ht hba.size) (fun e => hovt e.symm)).trans (htb2.trans hblk)
  obtain ⟨es, c, hmb⟩ := h.map.blk
  have hmlt := h.map.lt
  have F2 : TFr t mb w (w.alloc o) := TFr.below hba ht
  have F3 : TFr t mb w w2 := by
    have hb' : (w.alloc o).heap[t]? = _ := htb2.trans hblk
    refine F2.trans (TFr.grow hg2 (fun k hk => ?_) hovt (Nat.lt_of_lt_of_le ht hba.size))
    have := (hk.2.2.2 _ _ _ hb').2
    simpa using this
  have hgt : g ≠ t := by
    rcases hat with e | e
    · rintro rfl; exact hovt e
    · have := hba.size; omega
  have hF := F3.store4 htb3 (.slice (some ⟨g, 0, none⟩) (V.length + 1) cap) (fun k hk e => by
    have e' : g = k := by simpa [Value.ownBlock] using e
    subst e'
    rcases hat with e2 | e2
    · have := (hk.2.2.2 _ _ _ hblk).2
      exact this (by simpa using e2)
    · have := hk.1; have := hba.size; omega)
  have hb4 := block_set (i := 4) (u := .slice (some ⟨g, 0, none⟩) (V.length + 1) cap) htb3
  have hovm : (Value.slice wa V.length wc).ownBlock ≠ some mb := rowNeM h3 hmb
  refine ⟨⟨⟨_, _, hb4, ?_, ?_⟩, ?_, h.ok, h.rise, h.uniq, h.lenL, by simp; omega, h.hq⟩, hF⟩
  · refine rowBlock h2 fun g' hg' => ?_
    obtain ⟨l1, cs', l2⟩ := rowLt h2 hg'
    have n1 : g' ≠ t := by rintro rfl; rw [hblk] at l2; cases l2
    have n3 : (Value.slice wa V.length wc).ownBlock ≠ some g' := rowNe h3 l2 (by decide)
    rw [Below.heap_setCell _ _ _ _ (by exact n1), hg2.block g' (Nat.lt_of_lt_of_le l1 hba.size) (fun e => n3 e.symm), hba.block g' l1]
  · have : w2.ownsRow 0 63 3 (.slice (some ⟨g, 0, none⟩) (V ++ [x]).length cap) (V ++ [x]).length (wcs (V ++ [x])) := by rw [wcs_append, List.length_append]; exact hown
    have e : (V ++ [x]).length = V.length + 1 := by simp
    rw [e] at this ⊢
    refine rowBlock this fun g' hg' => ?_
    have : g = g' := by simpa [Value.ownBlock] using hg'
    subst this
    exact Below.heap_setCell _ _ _ _ (by exact hgt)
  · refine h.map.block ?_
    rw [Below.heap_setCell _ _ _ _ (by exact hta.symm), hg2.block mb (Nat.lt_of_lt_of_le hmlt hba.size) (fun e => hovm e.symm), hba.block mb hmlt]
/-- A slice tells who waits. -/
def WIn (w : World) (a : Option Addr) (V : List Wt) : Prop := ∀ i x, V[i]? = some x → ∃ g, a = some ⟨g, 0, none⟩ ∧ g < w.heap.size ∧ w.cell? ⟨g, i * 3, none⟩ = some (.int .i64 x.p) ∧ w.cell? ⟨g, i * 3 + 1, none⟩ = some (.int .i64 x.s) ∧ w.cell? ⟨g, i * 3 + 2, none⟩ = some (.int .i64 x.who)
theorem WIn.of {w : World} {a : Option Addr} {c : Nat} {V : List Wt} (h : w.ownsRow 0 63 3 (.slice a V.length c) V.length (wcs V)) : WIn w a V := fun i x hx => by
  have hlt : i < V.length := (List.getElem?_eq_some_iff.1 hx).1
  obtain ⟨g, rfl, hg⟩ := rowSome h (by omega)
  have hget := flat_get (fun x : Wt => [Value.int .i64 x.p, Value.int .i64 x.s, Value.int .i64 x.who]) 3 (fun _ => rfl) V i x hx
  exact ⟨g, rfl, hg, rowCell h (by have := hget 0 (by omega); simpa [wcs] using this), rowCell h (by have := hget 1 (by omega); simpa [wcs] using this), rowCell h (by have := hget 2 (by omega); simpa [wcs] using this)⟩
theorem WIn.below {w w' : World} {a : Option Addr} {V : List Wt} (h : WIn w a V) (hb : Below w.heap.size w w') : WIn w' a V := fun i x hx => by
  obtain ⟨g, e, hg, h1, h2, h3⟩ := h i x hx
  exact ⟨g, e, Nat.lt_of_lt_of_le hg hb.size, cellB hb h1, cellB hb h2, cellB hb h3⟩
set_option maxHeartbeats 1000000 in
theorem index_ok (w : World) (a : Option Addr) (c : Nat) (V : List Wt) (x : Wt) (h : WIn w a V) (hl : V.length ≤ 64) :
    Calls Try.prog 33 #[.slice a V.length c, wtV x.p x.s x.who] w fun e w' => (∃ i : Int, e = .returned (.int .i64 i) ∧ decide (0 ≤ i) = hasW V x) ∧ Below w.heap.size w w' := by
  have HIN : Hid (WIn w a V) := h
  obtain ⟨n, hn⟩ : ∃ n, V.length = n := ⟨_, rfl⟩
  have HN : Hid (V.length = n) := hn
  rw [hn] at hl ⊢
  obtain ⟨p, s, who⟩ := x
  obtain ⟨U, hU⟩ : ∃ U, w.heap.size = U := ⟨_, rfl⟩
  have HST : Hid (Below w.heap.size w (w.alloc (.cells #[.int .i64 p, .int .i64 s, .int .i64 who] 63)) ∧ (w.alloc (.cells #[.int .i64 p, .int .i64 s, .int .i64 who] 63)).heap[U]? = some (.cells #[.int .i64 p, .int .i64 s, .int .i64 who] 63 (0, 0))) := ⟨below_a _ _, by rw [← hU]; exact heap_alloc_new _ _⟩
  generalize hW : (w.alloc (.cells #[.int .i64 p, .int .i64 s, .int .i64 who] 63)) = W at HST
  clear h hn
  simp only [wtV]
  go_enter Try.func33, Try.ntmps33
  go_wp2
  try rw [hW]
  try rw [hU]
  clear hW
  go_loopw [8] (fun i wr => ∃ k : Nat, i = .int .i64 (k : Nat) ∧ k ≤ n ∧ (∀ j y, j < k → V[j]? = some y → eqW ⟨p, s, who⟩ y = false) ∧ Below w.heap.size w wr ∧ wr.heap[U]? = some (.cells #[.int .i64 p, .int .i64 s, .int .i64 who] 63 (0, 0))) (fun i _ => n - (intOf i).toNat)
  case atStart => exact ⟨0, rfl, Nat.zero_le _, fun j y hj => by omega, HST.out.1, HST.out.2⟩
  case round =>
    obtain ⟨k, rfl, hk, hall, hbel, hbox⟩ := hrel
    have HA : Hid (∀ j y, j < k → V[j]? = some y → eqW ⟨p, s, who⟩ y = false) := hall
    have HB : Hid (Below w.heap.size w wr ∧ wr.heap[U]? = some (.cells #[.int .i64 p, .int .i64 s, .int .i64 who] 63 (0, 0))) := ⟨hbel, hbox⟩
    have b0 : wr.cell? ⟨U, 0, none⟩ = some (.int .i64 p) := by simp [World.cell?, hbox]
    have b1 : wr.cell? ⟨U, 1, none⟩ = some (.int .i64 s) := by simp [World.cell?, hbox]
    have b2 : wr.cell? ⟨U, 2, none⟩ = some (.int .i64 who) := by simp [World.cell?, hbox]
    clear hall hbox
    by_cases hlt : k < n
    · have hlti : (k : Int) < (n : Int) := by omega
      obtain ⟨y, hy⟩ : ∃ y, V[k]? = some y := ⟨V[k]'(by rw [HN.out]; exact hlt), List.getElem?_eq_getElem _⟩
      obtain ⟨g, rfl, _, c0, c1, c2⟩ := (HIN.out.below hbel) _ _ hy
      have HY : Hid (V[k]? = some y) := hy
      have hq := fun W => run_eqlW p s who y.p y.s y.who W
      cases he : eqW ⟨p, s, who⟩ y with
      | true =>
        have he' : eqW ⟨p, s, who⟩ ⟨y.p, y.s, y.who⟩ = true := he
        have HE : Hid (eqW ⟨p, s, who⟩ y = true) := he
        rw [he'] at hq
        clear hbel hy he he' HST
        obtain ⟨y1, y2, y3⟩ := y
        simp only at c0 c1 c2 hq
        go_wp2_with fail
        go_region
        go_wp2
        go_ret
        refine ⟨⟨(k : Nat), rfl, ?_⟩, HB.out.1.trans ⟨rfl, rfl, rfl, Nat.le_refl _, fun _ _ => rfl⟩⟩
        rw [decide_eq_true (by omega)]
        exact ((hasW_iff V _).2 (by rw [(eqW_iff _ _).1 HE.out]; exact List.mem_of_getElem? HY.out)).symm
      | false =>
        have he' : eqW ⟨p, s, who⟩ ⟨y.p, y.s, y.who⟩ = false := he
        have HE : Hid (eqW ⟨p, s, who⟩ y = false) := he
        rw [he'] at hq
        clear hbel hy he he' HST
        obtain ⟨y1, y2, y3⟩ := y
        simp only at c0 c1 c2 hq
        go_wp2_with fail
        go_region
        go_wp2
        go_roundw
        case rel =>
          refine ⟨k + 1, by go_num, by omega, fun j y hj hjy => ?_, HB.out.1.trans ⟨rfl, rfl, rfl, Nat.le_refl _, fun _ _ => rfl⟩, HB.out.2⟩
          rcases Nat.lt_or_ge j k with h | h
          · exact HA.out j y h hjy
          · obtain rfl : j = k := by omega
            rw [HY.out] at hjy; cases hjy
            exact HE.out
        case measure => simp [intOf]; omega
    · have hlti : ¬ (k : Int) < (n : Int) := by omega
      have HK : Hid (k = n) := by show k = n; omega
      clear hbel hlt
      go_wp2
      go_ret
      refine ⟨⟨-1, rfl, ?_⟩, by rw [← hU]; exact HB.out.1⟩
      rw [decide_eq_false (by omega)]
      cases hx : hasW V ⟨p, s, who⟩ with
      | false => rfl
      | true =>
        obtain ⟨j, hj⟩ := List.getElem?_of_mem ((hasW_iff V _).1 hx)
        have hjl : j < k := by rw [HK.out, ← HN.out]; exact (List.getElem?_eq_some_iff.1 hj).1
        have := HA.out j _ hjl hj
        rw [(eqW_iff _ _).2 rfl] at this
        cases this
theorem contains_ok (w : World) (a : Option Addr) (c : Nat) (V : List Wt) (x : Wt) (h : WIn w a V) (hl : V.length ≤ 64) :
    Calls Try.prog 24 #[.slice a V.length c, wtV x.p x.s x.who] w fun e w' => e = .returned (.bool (hasW V x)) ∧ Below w.heap.size w w' := by
  have HB : Hid (Below w.heap.size w (w.alloc (.cells #[.int .i64 x.p, .int .i64 x.s, .int .i64 x.who] 63))) := below_a _ _
  have HI : Hid (∀ W, Below w.heap.size w W → Calls Try.prog 33 #[.slice a V.length c, wtV x.p x.s x.who] W fun e w' => (∃ i : Int, e = .returned (.int .i64 i) ∧ decide (0 ≤ i) = hasW V x) ∧ Below W.heap.size W w') := fun W hb => index_ok W a c V x (h.below hb) hl
  clear h hl
  obtain ⟨n, hn⟩ : ∃ n, V.length = n := ⟨_, rfl⟩
  rw [hn] at HI ⊢
  clear hn
  generalize hasW V x = f at HI ⊢
  obtain ⟨p, s, who⟩ := x
  simp only [wtV] at *
  go_enter Try.func24, Try.ntmps24
  go_wp2_with fail
  refine (HI.out _ HB.out).mono ?_
  rintro e w1 ⟨⟨i, rfl, hi⟩, hb1⟩
  have HB1 : Hid (Below w.heap.size w w1) := HB.out.trans (hb1.mono HB.out.size)
  have HI1 : Hid (decide (0 ≤ i) = f) := hi
  clear hb1 hi
  go_wp2
  go_ret
  exact ⟨by rw [← HI1.out]; rfl, HB1.out⟩
end Go.Proofs.Ytpjjenhimnkdcaa
namespace Go.Proofs.Ytpjjenhimnkdcaa
open Go.RowKit Go.Maps
set_option linter.unusedVariables false
set_option maxRecDepth 20000

theorem wtInfo : (Try.prog.info? 63).map (fun i => (i.zero, i.size, i.bytes)) = some (some (.agg #[.int .i64 0, .int .i64 0, .int .i64 0]), 3, 24) := by kernel_rfl
theorem news3 (W : World) (a b c : Value) (t : TypeId) : ∀ j u, [a, b, c][j]? = some u → (W.alloc (.cells #[a, b, c] t)).drew.cell? ((⟨W.heap.size, 0, none⟩ : Addr).add j) = some u := by
  intro j u h
  have hb : (W.alloc (.cells #[a, b, c] t)).drew.heap[W.heap.size]? = some (.cells #[a, b, c] t (0, 0)) := heap_alloc_new _ _
  rw [add_zero_addr]
  have : j < 3 := by have := (List.getElem?_eq_some_iff.1 h).1; simpa using this
  match j, this, h with
  | 0, _, h =>
    have e : a = u := by simpa using h
    subst e; unfold World.cell?; rw [hb]; rfl
  | 1, _, h =>
    have e : b = u := by simpa using h
    subst e; unfold World.cell?; rw [hb]; rfl
  | 2, _, h =>
    have e : c = u := by simpa using h
    subst e; unfold World.cell?; rw [hb]; rfl
theorem one3 (a b c : Int) : ∀ u ∈ [Value.int .i64 a, .int .i64 b, .int .i64 c], u.oneCell' = true := by
  intro u hu; simp at hu; rcases hu with rfl | rfl | rfl <;> rfl
def waitV (q : Nat) (V : List Wt) (x : Wt) : List Wt := if hasW V x then V else if q ≤ V.length then V else V ++ [x]
def waitC (q : Nat) (V : List Wt) (x : Wt) : Int := if hasW V x then 0 else if q ≤ V.length then 150 else 0
set_option maxHeartbeats 4000000 in
theorem wait_ok (w : World) (t mb q : Nat) (L : List Bt) (V : List Wt) (p s who : Int) (h : TS w t mb q L V) (p0 : 0 ≤ p) (p1 : p ≤ 2147483647) (s0 : 0 ≤ s) (s1 : s ≤ 2147483647) (hf : (fnd L p s).isSome = true) :
    Calls Try.prog 12 #[.pointer (some ⟨t, 0, none⟩), idV p s, .int .i64 who] w fun e w' => e = .returned (.int .i64 (waitC q V ⟨p, s, who⟩)) ∧ TS w' t mb q L (waitV q V ⟨p, s, who⟩) ∧ TFr t mb w w' := by
  obtain ⟨i0, hi, hz0, hz1, hz2⟩ := info_split wtInfo
  have HI : Hid (Try.prog.info? 63 = some i0 ∧ i0.zero = some (.agg #[.int .i64 0, .int .i64 0, .int .i64 0]) ∧ i0.size = 3 ∧ i0.bytes = 24) := ⟨hi, hz0, hz1, hz2⟩
  clear hi hz0 hz1 hz2
  have HH : Hid (TS w t mb q L V) := h
  obtain ⟨U, hU⟩ : ∃ U, w.heap.size = U := ⟨_, rfl⟩
  have hbU : (w.alloc (.cells #[.int .i64 p, .int .i64 s] 30)).heap[U]? = some (.cells #[.int .i64 p, .int .i64 s] 30 (0, 0)) := by rw [← hU]; exact heap_alloc_new _ _
  have HB0 : Below w.heap.size w (w.alloc (.cells #[.int .i64 p, .int .i64 s] 30)) := below_a _ _
  have hT := h.below HB0
  generalize hW : (w.alloc (.cells #[.int .i64 p, .int .i64 s] 30)) = W at hbU HB0 hT
  have HF : Hid (∀ W, TS W t mb q L V → Calls Try.prog 9 #[.pointer (some ⟨t, 0, none⟩), idV p s] W fun e w' => e = .returned (.tuple #[(fb L p s).v, .int .i64 0]) ∧ Below W.heap.size W w') := fun W h => by
    have := find_ok W t mb q L V h p s p0 p1 s0 s1
    rw [hf] at this
    exact this
  have HFU : Hid (∀ W, TS W t mb q L V → Calls Try.prog 25 #[.pointer (some ⟨t, 0, none⟩)] W fun e w' => e = .returned (.bool (decide (q ≤ V.length))) ∧ Below W.heap.size W w') := fun W h => full_ok W t mb q L V h
  have HV64 : Hid (V.length ≤ 64) := Nat.le_trans h.lenV h.hq
  have HCO : Hid (∀ W a c, WIn W a V → Calls Try.prog 24 #[.slice a V.length c, .agg #[.int .i64 p, .int .i64 s, .int .i64 who]] W fun e w' => e = .returned (.bool (hasW V ⟨p, s, who⟩)) ∧ Below W.heap.size W w') := fun W a c h => contains_ok W a c V ⟨p, s, who⟩ h HV64.out
  have HT : Hid (TS W t mb q L V ∧ Below w.heap.size w W) := ⟨hT, HB0⟩
  have HWV : Hid (waitV q V ⟨p, s, who⟩ = if hasW V ⟨p, s, who⟩ then V else if decide (q ≤ V.length) then V else V ++ [⟨p, s, who⟩]) := by
    show waitV _ _ _ = _
    simp [waitV]
  have HWC : Hid (waitC q V ⟨p, s, who⟩ = if hasW V ⟨p, s, who⟩ then 0 else if decide (q ≤ V.length) then 150 else 0) := by
    show waitC _ _ _ = _
    simp [waitC]
  have HQ : Hid (decide (q ≤ V.length) = false → V.length < q) := fun h => by have := of_decide_eq_false h; omega
  obtain ⟨hw, hhw⟩ : ∃ hw, hasW V ⟨p, s, who⟩ = hw := ⟨_, rfl⟩
  obtain ⟨fu, hfu⟩ : ∃ fu, decide (q ≤ V.length) = fu := ⟨_, rfl⟩
  rw [hhw] at HCO HWV HWC
  rw [hfu] at HFU HWV HWC HQ
  obtain ⟨WV, hWV⟩ : ∃ WV, waitV q V ⟨p, s, who⟩ = WV := ⟨_, rfl⟩
  obtain ⟨WC, hWC⟩ : ∃ WC, waitC q V ⟨p, s, who⟩ = WC := ⟨_, rfl⟩
  rw [hWV] at HWV ⊢
  rw [hWC] at HWC ⊢
  have y0 : W.cell? ⟨U, 0, none⟩ = some (.int .i64 p) := by simp [World.cell?, hbU]
  have y1 : W.cell? ⟨U, 1, none⟩ = some (.int .i64 s) := by simp [World.cell?, hbU]
  clear h hf p0 p1 s0 s1 hT HB0 hbU hhw hfu hWV hWC
  generalize fb L p s = fbv at HF
  obtain ⟨f0, f1, f2, f3, f4⟩ := fbv
  simp only [Bt.v, idV] at *
  go_enter Try.func12, Try.ntmps12
  go_wp2_with fail
  try rw [hW]
  try rw [hU]
  clear hW
  refine (HF.out _ HT.out.1).mono ?_
  rintro e w1 ⟨rfl, hb1⟩
  have x0 := cellB hb1 y0
  have x1 := cellB hb1 y1
  have HT1 : Hid (TS (w1.alloc (.cells #[.int .i64 f0, .int .i64 f1, .int .i64 f2, .int .i64 f3, .int .i64 f4, .slice none 0 0] 33)) t mb q L V ∧ Below w.heap.size w (w1.alloc (.cells #[.int .i64 f0, .int .i64 f1, .int .i64 f2, .int .i64 f3, .int .i64 f4, .slice none 0 0] 33))) := by
    have hb2 := below_a w1 (.cells #[.int .i64 f0, .int .i64 f1, .int .i64 f2, .int .i64 f3, .int .i64 f4, .slice none 0 0] 33)
    exact ⟨(HT.out.1.below hb1).below hb2, (HT.out.2.trans (hb1.mono HT.out.2.size)).trans (hb2.mono (Nat.le_trans HT.out.2.size hb1.size))⟩
  have z0 := cellB (below_a w1 (.cells #[.int .i64 f0, .int .i64 f1, .int .i64 f2, .int .i64 f3, .int .i64 f4, .slice none 0 0] 33)) x0
  have z1 := cellB (below_a w1 (.cells #[.int .i64 f0, .int .i64 f1, .int .i64 f2, .int .i64 f3, .int .i64 f4, .slice none 0 0] 33)) x1
  clear hb1 y0 y1 x0 x1
  go_upto_region 4 with fail
  generalize (w1.alloc (.cells #[.int .i64 f0, .int .i64 f1, .int .i64 f2, .int .i64 f3, .int .i64 f4, .slice none 0 0] 33)) = w2 at HT1 z0 z1
  obtain ⟨U9, hU9⟩ : ∃ U9, w2.heap.size = U9 := ⟨_, rfl⟩
  have HT3 : Hid (TS (w2.alloc (.cells #[.int .i64 p, .int .i64 s, .int .i64 who] 63)) t mb q L V ∧ Below w.heap.size w (w2.alloc (.cells #[.int .i64 p, .int .i64 s, .int .i64 who] 63)) ∧ (w2.alloc (.cells #[.int .i64 p, .int .i64 s, .int .i64 who] 63)).heap[U9]? = some (.cells #[.int .i64 p, .int .i64 s, .int .i64 who] 63 (0, 0))) := by
    have hb2 := below_a w2 (.cells #[.int .i64 p, .int .i64 s, .int .i64 who] 63)
    exact ⟨HT1.out.1.below hb2, HT1.out.2.trans (hb2.mono HT1.out.2.size), by rw [← hU9]; exact heap_alloc_new _ _⟩
  go_upto_region 5 with fail
  try rw [hU9]
  generalize (w2.alloc (.cells #[.int .i64 p, .int .i64 s, .int .i64 who] 63)) = w3 at HT3
  clear z0 z1 hU9 HT1
  obtain ⟨oa, oc, wa, wc, hblk, hor, hwr⟩ := HT3.out.1.rows
  have d4 : w3.cell? ⟨t, 4, none⟩ = some (.slice wa V.length wc) := by simp [World.cell?, hblk]
  have z0 : w3.cell? ⟨U9, 0, none⟩ = some (.int .i64 p) := by simp [World.cell?, HT3.out.2.2]
  have z1 : w3.cell? ⟨U9, 1, none⟩ = some (.int .i64 s) := by simp [World.cell?, HT3.out.2.2]
  have z2 : w3.cell? ⟨U9, 2, none⟩ = some (.int .i64 who) := by simp [World.cell?, HT3.out.2.2]
  have HWI : Hid (WIn w3 wa V) := WIn.of hwr
  clear hblk hor hwr
  go_region_with (go_at_call 24; refine (HCO.out _ wa wc (HWI.out.below (below_d _))).mono ?_; rintro e w4 ⟨rfl, hb4⟩; have hb4' : Below w3.heap.size w3 w4 := ⟨hb4.os, hb4.tape, hb4.output, hb4.size, hb4.block⟩; have HT4 : Hid (TS w4 t mb q L V ∧ Below w.heap.size w w4 ∧ w4.heap[U9]? = some (.cells #[.int .i64 p, .int .i64 s, .int .i64 who] 63 (0, 0))) := ⟨HT3.out.1.below hb4', HT3.out.2.1.trans (hb4'.mono HT3.out.2.1.size), (hb4'.block U9 (lt_of_block HT3.out.2.2)).trans HT3.out.2.2⟩; clear hb4 hb4')
  all_goals
    clear z0 z1 z2 d4 HT3 HWI
    cases hw
    · go_wp2_with fail
      refine (HFU.out _ HT4.out.1).mono ?_
      rintro e w5 ⟨rfl, hb5⟩
      have HT5 : Hid (TS w5 t mb q L V ∧ Below w.heap.size w w5 ∧ w5.heap[U9]? = some (.cells #[.int .i64 p, .int .i64 s, .int .i64 who] 63 (0, 0))) := ⟨HT4.out.1.below hb5, HT4.out.2.1.trans (hb5.mono HT4.out.2.1.size), (hb5.block U9 (lt_of_block HT4.out.2.2)).trans HT4.out.2.2⟩
      clear hb5 HT4
      cases fu
      · go_upto_region 9 with fail
        obtain ⟨oa1, oc1, wa1, wc1, hblk, hor, hwr⟩ := HT5.out.1.rows
        have d4 : w5.cell? ⟨t, 4, none⟩ = some (.slice wa1 V.length wc1) := by simp [World.cell?, hblk]
        have d41 := fun o => cellB (below_ad w5 o) d4
        have z0 : w5.cell? ⟨U9, 0, none⟩ = some (.int .i64 p) := by simp [World.cell?, HT5.out.2.2]
        have z1 : w5.cell? ⟨U9, 1, none⟩ = some (.int .i64 s) := by simp [World.cell?, HT5.out.2.2]
        have z2 : w5.cell? ⟨U9, 2, none⟩ = some (.int .i64 who) := by simp [World.cell?, HT5.out.2.2]
        have z01 := fun o => cellB (below_ad w5 o) z0
        have z11 := fun o => cellB (below_ad w5 o) z1
        have z21 := fun o => cellB (below_ad w5 o) z2
        have HOW : Hid (∀ o, (w5.alloc o).drew.ownsRow 0 63 3 (.slice wa1 V.length wc1) V.length (wcs V)) := fun o => owns_below hwr (below_ad w5 o)
        have HNW : Hid (∀ j u, [Value.int .i64 p, Value.int .i64 s, Value.int .i64 who][j]? = some u → (w5.alloc (.cells #[.int .i64 p, .int .i64 s, .int .i64 who] 63)).drew.cell? ((⟨w5.heap.size, 0, none⟩ : Addr).add j) = some u) := news3 w5 _ _ _ _
        have HX : Hid (w5.heap[t]? = some (.cells #[.pointer (some ⟨t, 0, none⟩), .int .i64 (q : Nat), .map (some mb), .slice oa1 L.length oc1, .slice wa1 V.length wc1] 55 (0, 0)) ∧ (Value.slice wa1 V.length wc1).ownBlock ≠ some t) := ⟨hblk, rowNe hwr hblk (by decide)⟩
        clear hblk hor hwr
        go_region_law
          (refine step_append_lies _ rfl _ _ 53 rfl 0 63 i0 (.agg #[.int .i64 0, .int .i64 0, .int .i64 0]) 3 24 Try.underlying53 HI.out.1 HI.out.2.1 HI.out.2.2.1 HI.out.2.2.2 rfl (by decide) (.slice wa1 V.length wc1) V.length (wcs V) rfl (HOW.out _) ⟨w5.heap.size, 0, none⟩ 1 1 [.int .i64 p, .int .i64 s, .int .i64 who] rfl rfl HNW.out (one3 _ _ _) (by decide) (by have := HV64.out; unfold maxLen; omega) (by have := HV64.out; omega) (Nat.zero_le _) _ rfl ?_; intro g7 cap7 w7 hown hgrow hat hgl; have hgr' : (w5.alloc (.cells #[.int .i64 p, .int .i64 s, .int .i64 who] 63)).grownBy w7 (Value.slice wa1 V.length wc1).ownBlock := ⟨hgrow.os, hgrow.tape, hgrow.output, hgrow.size, hgrow.block⟩; have hb7 : w7.heap[t]? = some (.cells #[.pointer (some ⟨t, 0, none⟩), .int .i64 (q : Nat), .map (some mb), .slice oa1 L.length oc1, .slice wa1 V.length wc1] 55 (0, 0)) := (hgr'.block t (by have := lt_of_block HX.out.1; simp; omega) (fun e => HX.out.2 e.symm)).trans (((below_a w5 _).block t (lt_of_block HX.out.1)).trans HX.out.1); have e4 : w7.cell? ⟨t, 4, none⟩ = some (.slice wa1 V.length wc1) := (by simp [World.cell?, hb7]); have f4 := frozen0 hb7 4; have HGR : Hid (w7.ownsRow 0 63 3 (.slice (some ⟨g7, 0, none⟩) (V.length + 1) cap7) (V.length + 1) (wcs V ++ [.int .i64 p, .int .i64 s, .int .i64 who]) ∧ (w5.alloc (.cells #[.int .i64 p, .int .i64 s, .int .i64 who] 63)).grownBy w7 (Value.slice wa1 V.length wc1).ownBlock ∧ ((Value.slice wa1 V.length wc1).ownBlock = some g7 ∨ g7 = (w5.alloc (.cells #[.int .i64 p, .int .i64 s, .int .i64 who] 63)).heap.size)) := ⟨hown, hgr', hat⟩; clear hown hgrow hat hgl hgr' hb7)
        all_goals
          have hfin := TS.wait (x := ⟨p, s, who⟩) (o := .cells #[.int .i64 p, .int .i64 s, .int .i64 who] 63) HT5.out.1 (HQ.out (by first | trivial | rfl)) HX.out.1 HGR.out.1 HGR.out.2.1 HGR.out.2.2
          have HFN : Hid (TS _ t mb q L (V ++ [⟨p, s, who⟩]) ∧ TFr t mb w _) := ⟨hfin.1, (TFr.below HT5.out.2.1 HH.out.lt).trans hfin.2⟩
          clear hfin HGR HX HOW HNW z0 z1 z2 z01 z11 z21 d4 d41 e4 f4
          go_wp2
          go_ret
          have e1 := HWV.out
          have e2 := HWC.out
          simp only [Bool.false_eq_true, if_false] at e1 e2
          exact ⟨by rw [e2]; rfl, by rw [e1]; exact HFN.out.1, HFN.out.2⟩
      · go_wp2
        go_ret
        have e1 := HWV.out
        have e2 := HWC.out
        simp only [Bool.false_eq_true, if_false, if_true] at e1 e2
        exact ⟨by rw [e2]; rfl, by rw [e1]; exact HT5.out.1, TFr.below HT5.out.2.1 HH.out.lt⟩
    · go_wp2
      go_ret
      have e1 := HWV.out
      have e2 := HWC.out
      simp only [if_true] at e1 e2
      exact ⟨by rw [e2]; rfl, by rw [e1]; exact HT4.out.1, TFr.below HT4.out.2.1 HH.out.lt⟩
end Go.Proofs.Ytpjjenhimnkdcaa
namespace Go.Proofs.Ytpjjenhimnkdcaa
open Go.RowKit Go.Maps
set_option linter.unusedVariables false
set_option maxRecDepth 20000

def isD (L : List Bt) (c : Int) (x : Wt) : Bool := decide ((fb L x.p x.s).fin ≤ c)
def akC (L : List Bt) (x : Wt) : List Value := [.int .i64 x.who, .int .i64 x.p, .int .i64 x.s, .int .i64 0, .int .i64 (fb L x.p x.s).base, .int .i64 (fb L x.p x.s).cnt]
def acs (L : List Bt) (D : List Wt) : List Value := D.flatMap (akC L)
theorem acs_append (L : List Bt) (D E : List Wt) : acs L (D ++ E) = acs L D ++ acs L E := by simp [acs]
theorem akInfo : (Try.prog.info? 41).map (fun i => (i.zero, i.size, i.bytes)) = some (some (.agg #[.int .i64 0, .int .i64 0, .int .i64 0, .int .i64 0, .int .i64 0, .int .i64 0]), 6, 48) := by kernel_rfl
theorem newsN (W : World) (cs : Array Value) (t : TypeId) : ∀ j u, cs.toList[j]? = some u → (W.alloc (.cells cs t)).cell? ((⟨W.heap.size, 0, none⟩ : Addr).add j) = some u :=
  World.news_of_block (heap_alloc_new W _)
theorem one6 (a b c d e f : Int) : ∀ u ∈ [Value.int .i64 a, .int .i64 b, .int .i64 c, .int .i64 d, .int .i64 e, .int .i64 f], u.oneCell' = true := by
  intro u hu; simp at hu; rcases hu with rfl | rfl | rfl | rfl | rfl | rfl <;> rfl
theorem rowBase0 {w : World} {B : Nat} {E : TypeId} {size n : Nat} {v : Value} {xs : List Value} (h : w.ownsRow B E size v n xs) : w.ownsRow 0 E size v n xs := by
  refine ⟨h.1, ?_⟩
  rcases h.2 with e | ⟨g, cap, cur, e1, e2, e3⟩
  · exact .inl e
  · exact .inr ⟨g, cap, cur, e1, Nat.zero_le _, e3⟩
/-- What Done has so far. -/
structure DR (w wr : World) (L : List Bt) (va vl : Value) (A E : List Wt) : Prop where
  bel : Below w.heap.size w wr
  oa : wr.ownsRow w.heap.size 41 6 va A.length (acs L A)
  ol : wr.ownsRow w.heap.size 63 3 vl E.length (wcs E)
theorem DR.left {w wr W w5 : World} {L : List Bt} {va vl v' : Value} {A E : List Wt} {x : Wt} {o : Obj} (h : DR w wr L va vl A E) (hb : Below wr.heap.size wr W) (hg : (W.alloc o).grownBy w5 vl.ownBlock) (hown : w5.ownsRow w.heap.size 63 3 v' (E.length + 1) (wcs E ++ [.int .i64 x.p, .int .i64 x.s, .int .i64 x.who])) : DR w w5 L va v' A (E ++ [x]) := by
  have hba := below_a W o
  have hb1 : Below wr.heap.size wr (W.alloc o) := hb.trans (hba.mono hb.size)
  have ol1 := owns_below h.ol hb1
  have oa1 := owns_below h.oa hb1
  have hb2 : Below w.heap.size w (W.alloc o) := h.bel.trans (hb1.mono h.bel.size)
  refine ⟨hb2.trans (below_grown ol1 hg hb2.size), rowBlock oa1 fun g hg' => ?_, by rw [wcs_append, List.length_append]; exact hown⟩
  obtain ⟨l1, cs, l2⟩ := rowLt oa1 hg'
  exact hg.block g l1 (fun e => rowNe ol1 l2 (by decide) e.symm)
theorem DR.ack {w wr W w5 : World} {L : List Bt} {va vl v' : Value} {A E : List Wt} {x : Wt} {o : Obj} (h : DR w wr L va vl A E) (hb : Below wr.heap.size wr W) (hg : (W.alloc o).grownBy w5 va.ownBlock) (hown : w5.ownsRow w.heap.size 41 6 v' (A.length + 1) (acs L A ++ akC L x)) : DR w w5 L v' vl (A ++ [x]) E := by
  have hba := below_a W o
  have hb1 : Below wr.heap.size wr (W.alloc o) := hb.trans (hba.mono hb.size)
  have ol1 := owns_below h.ol hb1
  have oa1 := owns_below h.oa hb1
  have hb2 : Below w.heap.size w (W.alloc o) := h.bel.trans (hb1.mono h.bel.size)
  have e1 : acs L [x] = akC L x := by simp [acs]
  refine ⟨hb2.trans (below_grown oa1 hg hb2.size), by rw [acs_append, List.length_append, e1]; exact hown, rowBlock ol1 fun g hg' => ?_⟩
  obtain ⟨l1, cs, l2⟩ := rowLt ol1 hg'
  exact hg.block g l1 (fun e => rowNe oa1 l2 (by decide) e.symm)
/-- What Done answers, and leaves. -/
def DoneE (w : World) (t mb q : Nat) (L : List Bt) (V : List Wt) (c : Int) (e : Ending) (w' : World) : Prop :=
  ∃ v, e = .returned v ∧ w'.ownsRow w.heap.size 41 6 v (V.filter (isD L c)).length (acs L (V.filter (isD L c))) ∧ TS w' t mb q L (V.filter fun x => !isD L c x) ∧ TFr t mb w w' ∧ ∀ g, v.ownBlock = some g → Ap w' t mb g
theorem DR.fin {w wr : World} {t mb q : Nat} {L : List Bt} {V : List Wt} {va vl : Value} {c : Int} (h : TS w t mb q L V) (hd : DR w wr L va vl (V.filter (isD L c)) (V.filter fun x => !isD L c x)) : DoneE w t mb q L V c (.returned va) (wr.setCell ⟨t, 4, none⟩ vl) := by
  have h1 := h.below hd.bel
  obtain ⟨ov, wv, hblk, ho, hw⟩ := h1.blk
  obtain ⟨es, cc, hmb⟩ := h1.map.blk
  have hb4 := block_set (i := 4) (u := vl) hblk
  have hset : ∀ g, g ≠ t → (wr.setCell ⟨t, 4, none⟩ vl).heap[g]? = wr.heap[g]? := fun g hg => Below.heap_setCell _ _ _ _ (by exact hg)
  have hge : ∀ {E : TypeId} {size n : Nat} {v : Value} {xs : List Value}, wr.ownsRow w.heap.size E size v n xs → ∀ g, v.ownBlock = some g → w.heap.size ≤ g := fun hr g hg => by
    rcases hr.2 with ⟨e, _⟩ | ⟨g', cap, cur, e1, e2, _⟩
    · rw [e] at hg; simp [Value.ownBlock] at hg
    · rw [e1] at hg
      have : g' = g := by simpa [Value.ownBlock] using hg
      omega
  have hF := (TFr.below (mb := mb) hd.bel h.lt).store4 hblk vl (fun k hk e => by have := hge hd.ol k e; have := hk.1; omega)
  have hne : ∀ {B : Nat} {E : TypeId} {size n : Nat} {v : Value} {xs : List Value}, wr.ownsRow B E size v n xs → E ≠ 55 → ∀ g, v.ownBlock = some g → g ≠ t := fun hr hE g hg e => by
    subst e
    exact rowNe hr hblk (fun e => hE e.symm) hg
  refine ⟨va, rfl, rowBlock hd.oa fun g hg => hset g (hne hd.oa (by decide) g hg), ⟨⟨_, _, hb4, rowBlock ho fun g hg => hset g (hne ho (by decide) g hg), ?_⟩, h1.map.block (hset mb h1.apart.symm), h.ok, h.rise, h.uniq, h.lenL, Nat.le_trans (List.length_filter_le _ _) h.lenV, h.hq⟩, hF, fun g hg => ?_⟩
  · exact rowBlock (rowBase0 hd.ol) fun g hg => hset g (hne hd.ol (by decide) g hg)
  · obtain ⟨l1, cs, l2⟩ := rowLt hd.oa hg
    refine ⟨(by simpa [World.setCell] using l1), hne hd.oa (by decide) g hg, (by rintro rfl; rw [hmb] at l2; cases l2), fun cs' ty m e => ?_⟩
    rw [hb4] at e
    cases e
    exact ⟨by simpa using rowNe ho l2 (by decide), by simpa using rowNe hd.ol l2 (by decide)⟩
set_option maxHeartbeats 4000000 in
theorem done_ok (w : World) (t mb q : Nat) (L : List Bt) (V : List Wt) (c : Int) (h : TS w t mb q L V) (hV : ∀ x ∈ V, (fnd L x.p x.s).isSome = true) :
    Calls Try.prog 13 #[.pointer (some ⟨t, 0, none⟩), .int .i64 c] w (DoneE w t mb q L V c) := by
  obtain ⟨i0, hi, hz0, hz1, hz2⟩ := info_split wtInfo
  have HI : Hid (Try.prog.info? 63 = some i0 ∧ i0.zero = some (.agg #[.int .i64 0, .int .i64 0, .int .i64 0]) ∧ i0.size = 3 ∧ i0.bytes = 24) := ⟨hi, hz0, hz1, hz2⟩
  clear hi hz0 hz1 hz2
  obtain ⟨i1, hi, hz0, hz1, hz2⟩ := info_split akInfo
  have HJ : Hid (Try.prog.info? 41 = some i1 ∧ i1.zero = some (.agg #[.int .i64 0, .int .i64 0, .int .i64 0, .int .i64 0, .int .i64 0, .int .i64 0]) ∧ i1.size = 6 ∧ i1.bytes = 48) := ⟨hi, hz0, hz1, hz2⟩
  clear hi hz0 hz1 hz2
  have HH : Hid (TS w t mb q L V) := h
  have HFB : Hid (∀ x ∈ V, (fb L x.p x.s).OK ∧ 0 ≤ x.p ∧ x.p ≤ 2147483647 ∧ 0 ≤ x.s ∧ x.s ≤ 2147483647) := fun x hx => by
    have h1 := hV x hx
    cases e : fnd L x.p x.s with
    | none => rw [e] at h1; cases h1
    | some b =>
      obtain ⟨h2, h3, h4⟩ := fnd_some e
      have h5 := h.ok b h2
      have h6 : fb L x.p x.s = b := by unfold fb; rw [e]; rfl
      rw [h6]
      exact ⟨h5, h3 ▸ h5.p0, h3 ▸ h5.p1, h4 ▸ h5.s0, h4 ▸ h5.s1⟩
  have HG : Hid (Calls Try.prog 20 #[.pointer (some ⟨t, 0, none⟩)] w fun e w' => e = .returned (.bool true) ∧ w' = w) := given_yes t w h.cells.1
  obtain ⟨oa, oc, wa, wc, hblk, hor, hwr⟩ := h.rows
  have d4 : w.cell? ⟨t, 4, none⟩ = some (.slice wa V.length wc) := by simp [World.cell?, hblk]
  have HWI : Hid (WIn w wa V) := WIn.of hwr
  have HV64 : Hid (V.length ≤ 64) := Nat.le_trans h.lenV h.hq
  obtain ⟨n, hn⟩ : ∃ n, V.length = n := ⟨_, rfl⟩
  have HN : Hid (V.length = n) := hn
  rw [hn] at d4
  have hn64 : n ≤ 64 := by rw [← hn]; exact HV64.out
  clear h hV hblk hor hwr hn
  go_enter Try.func13, Try.ntmps13
  go_wp2_with fail
  refine HG.out.mono ?_
  rintro e w0 ⟨rfl, hw⟩
  obtain rfl := hw.symm
  clear HG hw
  go_wp2
  go_loopw [5, 6, 18] (fun va vl i wr => ∃ (M T A E : List Wt), i = .int .i64 (M.length : Nat) ∧ V = M ++ T ∧ A = M.filter (isD L c) ∧ E = (M.filter fun x => !isD L c x) ∧ DR w wr L va vl A E) (fun _ _ i _ => n - (intOf i).toNat)
  case atStart => exact ⟨[], V, [], [], rfl, rfl, rfl, rfl, Below.refl _ _, World.ownsRow_nil _ _ _ _, World.ownsRow_nil _ _ _ _⟩
  case round =>
    obtain ⟨M, T, A, E, rfl, hVM, hA, hE, hd⟩ := hrel
    have HD : Hid (DR w wr L u5 u6 A E) := hd
    have HVM : Hid (V = M ++ T ∧ A = M.filter (isD L c) ∧ E = (M.filter fun x => !isD L c x)) := ⟨hVM, hA, hE⟩
    have hTS := HH.out.below hd.bel
    have hIN := HWI.out.below hd.bel
    clear hA hE hd
    cases T with
    | nil =>
      have hML : M.length = n := by rw [← HN.out, hVM, List.append_nil]
      obtain ⟨oa1, oc1, wa1, wc1, hblk, _, _⟩ := hTS.rows
      have e4 : wr.cell? ⟨t, 4, none⟩ = some (.slice wa1 V.length wc1) := by simp [World.cell?, hblk]
      have f4 := frozen0 hblk 4
      have HF : Hid (DoneE w t mb q L V c (.returned u5) (wr.setCell ⟨t, 4, none⟩ u6)) := by
        refine DR.fin HH.out ?_
        have e : V = M := by rw [hVM, List.append_nil]
        rw [e, ← HVM.out.2.1, ← HVM.out.2.2]
        exact HD.out
      clear hVM hTS hIN hblk
      obtain ⟨la, lc, rfl⟩ := rowForm HD.out.ol
      go_wp2
      go_ret
      exact HF.out
    | cons x T =>
      have hx0 : V[M.length]? = some x := by rw [hVM]; simp
      have hlt : M.length < n := by have := HN.out; rw [hVM] at this; simp at this; omega
      obtain ⟨hok, p0, p1, s0, s1⟩ := HFB.out x (by rw [hVM]; simp)
      obtain ⟨g, rfl, hg, c0, c1, c2⟩ := hIN _ _ hx0
      have HBD : Hid (isD L c x = decide ((fb L x.p x.s).fin ≤ c)) := rfl
      have HLK : Hid (∀ W, TS W t mb q L V → (Instr.lookup 52 (.map (some mb)) (.agg #[.int .i64 x.p, .int .i64 x.s]) false).run Try.prog W = .ok (fb L x.p x.s).v W) := fun W hW => (look_m hW.map x.p x.s p0 p1 s0 s1).2
      have HSO : Hid (∀ W, Calls Try.prog 26 #[(fb L x.p x.s).v, .int .i64 c] W fun e w' => e = .returned (.int .i64 (if (fb L x.p x.s).fin ≤ c then 1 else 2)) ∧ Below W.heap.size W w') := fun W => stateOf_ok _ c W hok
      have HAK : Hid (akC L x = [.int .i64 x.who, .int .i64 x.p, .int .i64 x.s, .int .i64 0, .int .i64 (fb L x.p x.s).base, .int .i64 (fb L x.p x.s).cnt]) := rfl
      have HX : Hid (V = M ++ x :: T) := hVM
      have hlen : A.length ≤ 64 ∧ E.length ≤ 64 := by
        have e := HV64.out
        have hM : M.length ≤ 64 := by rw [hVM] at e; simp at e; omega
        rw [HVM.out.2.1, HVM.out.2.2]
        exact ⟨Nat.le_trans (List.length_filter_le _ _) hM, Nat.le_trans (List.length_filter_le _ _) hM⟩
      have HLN : Hid (A.length ≤ 64 ∧ E.length ≤ 64) := hlen
      generalize fb L x.p x.s = b at HBD HLK HSO HAK
      have HB1 : Hid (TS (wr.alloc (.cells #[.int .i64 x.p, .int .i64 x.s, .int .i64 x.who] 63)) t mb q L V ∧ Below wr.heap.size wr (wr.alloc (.cells #[.int .i64 x.p, .int .i64 x.s, .int .i64 x.who] 63)) ∧ (wr.alloc (.cells #[.int .i64 x.p, .int .i64 x.s, .int .i64 x.who] 63)).heap[wr.heap.size]? = some (.cells #[.int .i64 x.p, .int .i64 x.s, .int .i64 x.who] 63 (0, 0))) := ⟨hTS.below (below_a _ _), below_a _ _, heap_alloc_new _ _⟩
      clear hVM hTS hIN hx0 hok p0 p1 s0 s1 hlen
      obtain ⟨xp, xs, xw⟩ := x
      obtain ⟨b0, b1, b2, b3, b4⟩ := b
      obtain ⟨fn, hfn⟩ : ∃ fn, (⟨b0, b1, b2, b3, b4⟩ : Bt).fin = fn := ⟨_, rfl⟩
      rw [hfn] at HBD HSO
      clear hfn
      simp only [Bt.v] at *
      have hlti : (M.length : Int) < (n : Int) := by omega
      obtain ⟨U8, hU8⟩ : ∃ U8, wr.heap.size = U8 := ⟨_, rfl⟩
      rw [hU8] at HB1
      go_upto_region 8 with fail
      try rw [hU8]
      generalize (wr.alloc (.cells #[.int .i64 xp, .int .i64 xs, .int .i64 xw] 63)) = w1 at HB1
      clear c0 c1 c2
      have d2 := HB1.out.1.cells.2.2
      have d21 := fun o => cellB (below_ad w1 o) d2
      have z0 : w1.cell? ⟨U8, 0, none⟩ = some (.int .i64 xp) := by simp [World.cell?, HB1.out.2.2]
      have z1 : w1.cell? ⟨U8, 1, none⟩ = some (.int .i64 xs) := by simp [World.cell?, HB1.out.2.2]
      have z01 := fun o => cellB (below_ad w1 o) z0
      have z11 := fun o => cellB (below_ad w1 o) z1
      have l0 := HLK.out _ (HB1.out.1.below (below_d w1))
      have l1 := fun o => HLK.out _ (HB1.out.1.below (below_ad w1 o))
      go_region
      clear d2 d21 z0 z1 z01 z11 l0 l1
      obtain ⟨U9, hU9⟩ : ∃ U9, w1.heap.size = U9 := ⟨_, rfl⟩
      have HB2 : Hid (Below U8 wr (w1.alloc (.cells #[.int .i64 b0, .int .i64 b1, .int .i64 b2, .int .i64 b3, .int .i64 b4, .slice none 0 0] 33)).drew ∧ (w1.alloc (.cells #[.int .i64 b0, .int .i64 b1, .int .i64 b2, .int .i64 b3, .int .i64 b4, .slice none 0 0] 33)).drew.heap[U8]? = some (.cells #[.int .i64 xp, .int .i64 xs, .int .i64 xw] 63 (0, 0)) ∧ (w1.alloc (.cells #[.int .i64 b0, .int .i64 b1, .int .i64 b2, .int .i64 b3, .int .i64 b4, .slice none 0 0] 33)).drew.heap[U9]? = some (.cells #[.int .i64 b0, .int .i64 b1, .int .i64 b2, .int .i64 b3, .int .i64 b4, .slice none 0 0] 33 (0, 0))) := by
        have hb := below_ad w1 (.cells #[.int .i64 b0, .int .i64 b1, .int .i64 b2, .int .i64 b3, .int .i64 b4, .slice none 0 0] 33)
        refine ⟨HB1.out.2.1.trans (hb.mono (by have := lt_of_block HB1.out.2.2; omega)), (hb.block U8 (lt_of_block HB1.out.2.2)).trans HB1.out.2.2, ?_⟩
        rw [← hU9]; exact heap_alloc_new w1 _
      go_upto_region 9 with fail
      try rw [hU9]
      generalize (w1.alloc (.cells #[.int .i64 b0, .int .i64 b1, .int .i64 b2, .int .i64 b3, .int .i64 b4, .slice none 0 0] 33)).drew = w2 at HB2
      obtain ⟨y0, y1, y2, y3, y4, y5⟩ := cells6 HB2.out.2.2
      go_wp2_with fail
      refine (HSO.out _).mono ?_
      rintro e w3 ⟨rfl, hb3⟩
      have k0 := cellB hb3 y0
      have k1 := cellB hb3 y1
      have HB3 : Hid (Below U8 wr w3 ∧ w3.heap[U8]? = some (.cells #[.int .i64 xp, .int .i64 xs, .int .i64 xw] 63 (0, 0))) := ⟨HB2.out.1.trans (hb3.mono (by have := lt_of_block HB2.out.2.1; omega)), (hb3.block U8 (lt_of_block HB2.out.2.1)).trans HB2.out.2.1⟩
      have z0 : w3.cell? ⟨U8, 0, none⟩ = some (.int .i64 xp) := by simp [World.cell?, HB3.out.2]
      have z1 : w3.cell? ⟨U8, 1, none⟩ = some (.int .i64 xs) := by simp [World.cell?, HB3.out.2]
      have z2 : w3.cell? ⟨U8, 2, none⟩ = some (.int .i64 xw) := by simp [World.cell?, HB3.out.2]
      have HBW : Hid (Below wr.heap.size wr w3) := by rw [hU8]; exact HB3.out.1
      have HOA : Hid (∀ o, (w3.alloc o).ownsRow w.heap.size 41 6 u5 A.length (acs L A) ∧ w.heap.size ≤ (w3.alloc o).heap.size) := fun o => ⟨owns_below HD.out.oa (HBW.out.trans ((below_a w3 o).mono HBW.out.size)), by have := HD.out.bel.size; have := HBW.out.size; simp; omega⟩
      have HOL : Hid (∀ o, (w3.alloc o).ownsRow w.heap.size 63 3 u6 E.length (wcs E)) := fun o => owns_below HD.out.ol (HBW.out.trans ((below_a w3 o).mono HBW.out.size))
      clear hb3 y0 y1 y2 y3 y4 y5
      by_cases hdn : fn ≤ c
      · rw [if_pos hdn]
        have HDN : Hid (isD L c ⟨xp, xs, xw⟩ = true) := by show _ = true; rw [HBD.out]; exact decide_eq_true hdn
        clear hdn
        go_wp2_with (at_builtin; refine wpList_append_lies _ rfl _ _ 28 rfl w.heap.size 41 i1 (.agg #[.int .i64 0, .int .i64 0, .int .i64 0, .int .i64 0, .int .i64 0, .int .i64 0]) 6 48 Try.underlying28 HJ.out.1 HJ.out.2.1 HJ.out.2.2.1 HJ.out.2.2.2 rfl (by decide) u5 A.length (acs L A) rfl (HOA.out _).1 ⟨w3.heap.size, 0, none⟩ 1 1 [.int .i64 xw, .int .i64 xp, .int .i64 xs, .int .i64 0, .int .i64 b0, .int .i64 b1] rfl rfl (newsN _ _ _) (one6 _ _ _ _ _ _) (by decide) (by have := HLN.out; unfold maxLen; omega) (by have := HLN.out; omega) (HOA.out _).2 _ rfl ?_; intro g5 cap5 w5 hown hgrow hat hgl; have HNX : Hid (DR w w5 L (.slice (some ⟨g5, 0, none⟩) (A.length + 1) cap5) u6 (A ++ [⟨xp, xs, xw⟩]) E) := HD.out.ack HBW.out hgrow (by rw [HAK.out]; exact hown); clear hown hgrow hat hgl)
        go_roundw
        case rel => exact ⟨M ++ [⟨xp, xs, xw⟩], T, A ++ [⟨xp, xs, xw⟩], E, by simp, by rw [HX.out]; simp, by rw [HVM.out.2.1, List.filter_append]; simp [HDN.out], by rw [HVM.out.2.2, List.filter_append]; simp [HDN.out], HNX.out⟩
        case measure => simp [intOf]; omega
      · rw [if_neg hdn]
        have HDN : Hid (isD L c ⟨xp, xs, xw⟩ = false) := by show _ = false; rw [HBD.out]; exact decide_eq_false hdn
        clear hdn
        go_wp2_with (at_builtin; refine wpList_append_lies _ rfl _ _ 53 rfl w.heap.size 63 i0 (.agg #[.int .i64 0, .int .i64 0, .int .i64 0]) 3 24 Try.underlying53 HI.out.1 HI.out.2.1 HI.out.2.2.1 HI.out.2.2.2 rfl (by decide) u6 E.length (wcs E) rfl (HOL.out _) ⟨w3.heap.size, 0, none⟩ 1 1 [.int .i64 xp, .int .i64 xs, .int .i64 xw] rfl rfl (newsN _ _ _) (one3 _ _ _) (by decide) (by have := HLN.out; unfold maxLen; omega) (by have := HLN.out; omega) (HOA.out _).2 _ rfl ?_; intro g5 cap5 w5 hown hgrow hat hgl; have HNX : Hid (DR w w5 L u5 (.slice (some ⟨g5, 0, none⟩) (E.length + 1) cap5) A (E ++ [⟨xp, xs, xw⟩])) := HD.out.left HBW.out hgrow hown; clear hown hgrow hat hgl)
        go_roundw
        case rel => exact ⟨M ++ [⟨xp, xs, xw⟩], T, A, E ++ [⟨xp, xs, xw⟩], by simp, by rw [HX.out]; simp, by rw [HVM.out.2.1, List.filter_append]; simp [HDN.out], by rw [HVM.out.2.2, List.filter_append]; simp [HDN.out], HNX.out⟩
        case measure => simp [intOf]; omega
end Go.Proofs.Ytpjjenhimnkdcaa
namespace Go.Proofs.Ytpjjenhimnkdcaa
open Go.RowKit Go.Maps
set_option linter.unusedVariables false
set_option maxRecDepth 20000

theorem NewE.frame {w w1 w' : World} {q : Nat} {e : Ending} (h : NewE w q e w1) (hF : TFr (w.heap.size + 1) w.heap.size w1 w') : Below w.heap.size w w' :=
  ⟨hF.os.trans h.bel.os, hF.tape.trans h.bel.tape, hF.output.trans h.bel.output, Nat.le_trans h.bel.size hF.size, fun k hk => (hF.kept k (h.ap k hk)).1.trans (h.bel.block k hk)⟩
/-- A block that a table's calls leave alone. -/
structure Bk (w : World) (t mb k : Nat) (o : Obj) : Prop where
  ap : Ap w t mb k
  blk : w.heap[k]? = some o
theorem Bk.kept {w w' : World} {t mb k : Nat} {o : Obj} (h : Bk w t mb k o) (hF : TFr t mb w w') : Bk w' t mb k o := ⟨(hF.kept k h.ap).2, (hF.kept k h.ap).1.trans h.blk⟩
theorem Bk.new {w : World} {t mb q : Nat} {L : List Bt} {V : List Wt} (h : TS w t mb q L V) (cs : Array Value) (ty : TypeId) : Bk (w.alloc (.cells cs ty)) t mb w.heap.size (.cells cs ty (0, 0)) :=
  ⟨h.fresh (below_a _ _) (Nat.le_refl _) (by simp), heap_alloc_new _ _⟩
theorem run_eqlA (a b c d e f : Int) (w : World) :
    (binOp .eql 41 (.agg #[.int .i64 a, .int .i64 b, .int .i64 c, .int .i64 d, .int .i64 e, .int .i64 f]) (.agg #[.int .i64 a, .int .i64 b, .int .i64 c, .int .i64 d, .int .i64 e, .int .i64 f])).run Try.prog w = .ok (.bool true) w := by
  have h2 : (Op.equalIn 10000 41 (.agg #[.int .i64 a, .int .i64 b, .int .i64 c, .int .i64 d, .int .i64 e, .int .i64 f]) (.agg #[.int .i64 a, .int .i64 b, .int .i64 c, .int .i64 d, .int .i64 e, .int .i64 f])).run Try.prog w = .ok true w := by
    rw [run_equalIn_struct w 9999 _ _ _ (by kernel_rfl) (by kernel_rfl)]
    simp only [Program.fieldsOf, Try.underlying41]
    simp [Op.eqFields, go_sem]
  rw [run_eql_struct, h2]
  rfl
theorem hide {p : Prop} (h : p) : Hid p := h
def b21 : Bt := ⟨0, 2, 0, 1, 1⟩
theorem b21_ok : b21.OK := ⟨by decide, by decide, by decide, by decide, by decide, by decide, by decide, by decide, by decide, by decide⟩
set_option maxHeartbeats 4000000 in
theorem awake15 (w : World) : Calls Try.prog 15 #[] w fun e w' => e = .returned (.bool true) ∧ Below w.heap.size w w' := by
  have HN : Hid (Calls Try.prog 8 #[.int .i64 1] w (NewE w 1)) := new_ok 1 w (by omega) (by omega)
  go_enter Try.func15, Try.ntmps15
  go_wp2_with fail
  refine HN.out.mono ?_
  rintro e w1 hNE
  obtain rfl := hNE.ret
  have HNE : Hid (NewE w 1 _ w1) := hNE
  have HB2 : Hid (TS (w1.alloc (.cells #[.int .i64 1, .int .i64 1] 30)) (w.heap.size + 1) w.heap.size 1 [] [] ∧ TFr (w.heap.size + 1) w.heap.size w1 (w1.alloc (.cells #[.int .i64 1, .int .i64 1] 30)) ∧ Bk (w1.alloc (.cells #[.int .i64 1, .int .i64 1] 30)) (w.heap.size + 1) w.heap.size w1.heap.size (.cells #[.int .i64 1, .int .i64 1] 30 (0, 0))) :=
    ⟨hNE.ts.below (below_a _ _), TFr.below (below_a _ _) hNE.ts.lt, Bk.new hNE.ts _ _⟩
  clear HN hNE
  obtain ⟨t, ht⟩ : ∃ t, w.heap.size + 1 = t := ⟨_, rfl⟩
  obtain ⟨mb, hmb⟩ : ∃ mb, w.heap.size = mb := ⟨_, rfl⟩
  rw [ht] at HB2 ⊢
  rw [hmb] at HB2
  obtain ⟨U, hU⟩ : ∃ U, w1.heap.size = U := ⟨_, rfl⟩
  rw [hU] at HB2
  go_upto_region 3 with fail
  try rw [hU]
  generalize (w1.alloc (.cells #[.int .i64 1, .int .i64 1] 30)) = w2 at HB2
  go_wp2_with fail
  refine (put_yes w2 t mb 1 [] [] b21 HB2.out.1 b21_ok rfl (by decide) (by decide)).mono ?_
  rintro e w3 ⟨rfl, hT3, hF3⟩
  have HB3 : Hid (TS w3 t mb 1 [b21] [] ∧ TFr t mb w1 w3 ∧ Bk w3 t mb U (.cells #[.int .i64 1, .int .i64 1] 30 (0, 0))) := ⟨hT3, HB2.out.2.1.trans hF3, HB2.out.2.2.kept hF3⟩
  clear hT3 hF3 HB2
  have z0 : w3.cell? ⟨U, 0, none⟩ = some (.int .i64 1) := by simp [World.cell?, HB3.out.2.2.blk]
  have z1 : w3.cell? ⟨U, 1, none⟩ = some (.int .i64 1) := by simp [World.cell?, HB3.out.2.2.blk]
  go_wp2_with fail
  refine (wait_ok w3 t mb 1 [b21] [] 1 1 100 HB3.out.1 (by decide) (by decide) (by decide) (by decide) rfl).mono ?_
  rintro e w4 ⟨rfl, hT4, hF4⟩
  have HB4 : Hid (TS w4 t mb 1 [b21] [⟨1, 1, 100⟩] ∧ TFr t mb w1 w4 ∧ Bk w4 t mb U (.cells #[.int .i64 1, .int .i64 1] 30 (0, 0))) := ⟨hT4, HB3.out.2.1.trans hF4, HB3.out.2.2.kept hF4⟩
  clear hT4 hF4 HB3 z0 z1
  have hc1 : waitC 1 [] ⟨1, 1, 100⟩ = 0 := rfl
  rw [hc1]
  have z0 : w4.cell? ⟨U, 0, none⟩ = some (.int .i64 1) := by simp [World.cell?, HB4.out.2.2.blk]
  have z1 : w4.cell? ⟨U, 1, none⟩ = some (.int .i64 1) := by simp [World.cell?, HB4.out.2.2.blk]
  go_wp2_with fail
  refine (wait_ok w4 t mb 1 [b21] [⟨1, 1, 100⟩] 1 1 101 HB4.out.1 (by decide) (by decide) (by decide) (by decide) rfl).mono ?_
  rintro e w5 ⟨rfl, hT5, hF5⟩
  have HB5 : Hid (TS w5 t mb 1 [b21] [⟨1, 1, 100⟩] ∧ TFr t mb w1 w5 ∧ Bk w5 t mb U (.cells #[.int .i64 1, .int .i64 1] 30 (0, 0))) := ⟨hT5, HB4.out.2.1.trans hF5, HB4.out.2.2.kept hF5⟩
  clear hT5 hF5 HB4 z0 z1
  have hc2 : waitC 1 [⟨1, 1, 100⟩] ⟨1, 1, 101⟩ = 150 := rfl
  rw [hc2]
  go_wp2_with fail
  refine (done_ok w5 t mb 1 [b21] [⟨1, 1, 100⟩] 1 HB5.out.1 (by intro x hx; simp at hx; subst hx; rfl)).mono ?_
  rintro e w6 ⟨v6, rfl, hr6, hT6, hF6, ha6⟩
  have e6 : ([⟨1, 1, 100⟩] : List Wt).filter (isD [b21] 1) = [] := rfl
  have f6 : (([⟨1, 1, 100⟩] : List Wt).filter fun x => !isD [b21] 1 x) = [⟨1, 1, 100⟩] := rfl
  rw [e6] at hr6
  rw [f6] at hT6
  have HB6 : Hid (TS w6 t mb 1 [b21] [⟨1, 1, 100⟩] ∧ TFr t mb w1 w6 ∧ Bk w6 t mb U (.cells #[.int .i64 1, .int .i64 1] 30 (0, 0))) := ⟨hT6, HB5.out.2.1.trans hF6, HB5.out.2.2.kept hF6⟩
  obtain ⟨a6, c6, rfl⟩ := rowForm hr6
  clear hT6 hF6 HB5 hr6 ha6 e6 f6
  go_wp2_with fail
  refine (done_ok w6 t mb 1 [b21] [⟨1, 1, 100⟩] 2 HB6.out.1 (by intro x hx; simp at hx; subst hx; rfl)).mono ?_
  rintro e w7 ⟨v7, rfl, hr7, hT7, hF7, ha7⟩
  have e7 : ([⟨1, 1, 100⟩] : List Wt).filter (isD [b21] 2) = [⟨1, 1, 100⟩] := rfl
  have f7 : (([⟨1, 1, 100⟩] : List Wt).filter fun x => !isD [b21] 2 x) = [] := rfl
  rw [e7] at hr7
  rw [f7] at hT7
  have HB7 : Hid (TS w7 t mb 1 [b21] [] ∧ TFr t mb w1 w7 ∧ Bk w7 t mb U (.cells #[.int .i64 1, .int .i64 1] 30 (0, 0))) := ⟨hT7, HB6.out.2.1.trans hF7, HB6.out.2.2.kept hF7⟩
  obtain ⟨a7, c7, rfl⟩ := rowForm hr7
  obtain ⟨g7, rfl, _⟩ := rowSome hr7 (by decide)
  have k0 : w7.cell? ⟨g7, 0, none⟩ = some (.int .i64 100) := rowCell hr7 rfl
  have k1 : w7.cell? ⟨g7, 1, none⟩ = some (.int .i64 1) := rowCell hr7 rfl
  have k2 : w7.cell? ⟨g7, 2, none⟩ = some (.int .i64 1) := rowCell hr7 rfl
  have k3 : w7.cell? ⟨g7, 3, none⟩ = some (.int .i64 0) := rowCell hr7 rfl
  have k4 : w7.cell? ⟨g7, 4, none⟩ = some (.int .i64 0) := rowCell hr7 rfl
  have k5 : w7.cell? ⟨g7, 5, none⟩ = some (.int .i64 2) := rowCell hr7 rfl
  have z0 : w7.cell? ⟨U, 0, none⟩ = some (.int .i64 1) := by simp [World.cell?, HB7.out.2.2.blk]
  have z1 : w7.cell? ⟨U, 1, none⟩ = some (.int .i64 1) := by simp [World.cell?, HB7.out.2.2.blk]
  have heq := run_eqlA 100 1 1 0 0 2
  clear hT7 hF7 HB6 hr7 ha7 e7 f7
  simp only [List.length_nil, List.length_cons] at *
  go_upto_region 6 with fail
  go_region_held_law (fun w' => w'.cell? ⟨g7, 0, none⟩ = some (.int .i64 100) ∧ w'.cell? ⟨g7, 1, none⟩ = some (.int .i64 1) ∧ w'.cell? ⟨g7, 2, none⟩ = some (.int .i64 1) ∧ w'.cell? ⟨g7, 3, none⟩ = some (.int .i64 0) ∧ w'.cell? ⟨g7, 4, none⟩ = some (.int .i64 0) ∧ w'.cell? ⟨g7, 5, none⟩ = some (.int .i64 2) ∧ w'.cell? ⟨U, 0, none⟩ = some (.int .i64 1) ∧ w'.cell? ⟨U, 1, none⟩ = some (.int .i64 1))
    (first | assumption | exact ⟨k0, k1, k2, k3, k4, k5, z0, z1⟩ | go_keep)
    (first | (go_at_call 14; refine (waiting_ok _ t mb 1 [b21] [] (HB7.out.1.below (below_d _))).mono ?_; rintro e w8 ⟨rfl, hw8⟩; obtain rfl := hw8; have KS := (⟨k0, k1, k2, k3, k4, k5, z0, z1⟩ : w7.drew.cell? ⟨g7, 0, none⟩ = some (.int .i64 100) ∧ w7.drew.cell? ⟨g7, 1, none⟩ = some (.int .i64 1) ∧ w7.drew.cell? ⟨g7, 2, none⟩ = some (.int .i64 1) ∧ w7.drew.cell? ⟨g7, 3, none⟩ = some (.int .i64 0) ∧ w7.drew.cell? ⟨g7, 4, none⟩ = some (.int .i64 0) ∧ w7.drew.cell? ⟨g7, 5, none⟩ = some (.int .i64 2) ∧ w7.drew.cell? ⟨U, 0, none⟩ = some (.int .i64 1) ∧ w7.drew.cell? ⟨U, 1, none⟩ = some (.int .i64 1))))
  all_goals
    go_wp2
    go_ret
    refine ⟨rfl, ?_⟩
    subst ht hmb
    exact HNE.out.frame (HB7.out.2.1.trans (TFr.below (below_d _) HB7.out.1.lt))
end Go.Proofs.Ytpjjenhimnkdcaa
