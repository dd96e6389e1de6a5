/- The records of bytes: Of. -/
import Derived.Test.YtfjmcgdpiohnbaaAi
import Derived.Deep.AppendLies
namespace Go.Proofs.Ytfjmcgdpiohnbaa
open Go.RowKit
set_option linter.unusedVariables false

/-- The cells of records. -/
def rcs : List Rec → List Value
  | [] => []
  | r :: L => r.cs ++ rcs L
theorem rcs_append (L M : List Rec) : rcs (L ++ M) = rcs L ++ rcs M := by
  induction L with
  | nil => rfl
  | cons x L ih => simp [rcs, ih]
theorem rcs_length (L : List Rec) : (rcs L).length = L.length * 4 := by
  induction L with
  | nil => rfl
  | cons x L ih => simp only [rcs, List.length_append, ih, List.length_cons]; show 4 + _ = _; omega
theorem rcs_get (L : List Rec) (i : Nat) (r : Rec) (h : L[i]? = some r) (j : Nat) (hj : j < 4) : (rcs L)[i * 4 + j]? = r.cs[j]? := by
  induction L generalizing i with
  | nil => simp at h
  | cons x L ih =>
    cases i with
    | zero =>
      simp at h
      subst h
      rw [rcs, List.getElem?_append_left (by show 0 * 4 + j < 4; omega)]
      simp
    | succ i =>
      simp at h
      rw [rcs, List.getElem?_append_right (by show 4 ≤ _; omega), show (i + 1) * 4 + j - x.cs.length = i * 4 + j by show (i + 1) * 4 + j - 4 = _; omega]
      exact ih i h
theorem add_zero_addr (g j : Nat) : (⟨g, 0, none⟩ : Addr).add j = ⟨g, j, none⟩ := by
  unfold Addr.add; split
  · subst_vars; rfl
  · simp
theorem RIn.nil (w : World) (a : Option Addr) : RIn w a [] := fun i r h => by simp at h
theorem RIn.owned {w : World} {B g n cap : Nat} {L : List Rec} (h : w.ownsRow B 28 4 (.slice (some ⟨g, 0, none⟩) n cap) n (rcs L)) (hg : g < w.heap.size) : RIn w (some ⟨g, 0, none⟩) L := by
  intro i r hr
  have hc := h.cells (g := g) rfl
  refine ⟨g, 0, rfl, hg, ?_, ?_, ?_, ?_⟩
  · have := hc (i * 4 + 0) _ (rcs_get L i r hr 0 (by omega)); rw [add_zero_addr] at this; simpa using this
  · have := hc (i * 4 + 1) _ (rcs_get L i r hr 1 (by omega)); rw [add_zero_addr] at this; simpa using this
  · have := hc (i * 4 + 2) _ (rcs_get L i r hr 2 (by omega)); rw [add_zero_addr] at this; simpa using this
  · have := hc (i * 4 + 3) _ (rcs_get L i r hr 3 (by omega)); rw [add_zero_addr] at this; simpa using this
theorem recInfo : (Try.prog.info? 28).map (fun i => (i.zero, i.size, i.bytes)) = some (some (.agg #[.int .i64 0, .string ⟨#[]⟩, .string ⟨#[]⟩, .bool false]), 4, 48) := by kernel_rfl
theorem info_split {t : TypeId} {z : Option Value} {n m : Nat} (h : (Try.prog.info? t).map (fun i => (i.zero, i.size, i.bytes)) = some (z, n, m)) : ∃ i, Try.prog.info? t = some i ∧ i.zero = z ∧ i.size = n ∧ i.bytes = m := by
  cases e : Try.prog.info? t with
  | none => rw [e] at h; simp at h
  | some i => rw [e] at h; simp at h; exact ⟨i, rfl, h.1, h.2.1, h.2.2⟩
theorem owns_below {w w' : World} {B : Nat} {E : TypeId} {size n : Nat} {v : Value} {xs : List Value} (h : w.ownsRow B E size v n xs) (hb : Below w.heap.size w w') : w'.ownsRow B E size v n xs := by
  refine ⟨h.1, ?_⟩
  rcases h.2 with hn | ⟨g, cap, cur, hv, hg, hh, r⟩
  · exact .inl hn
  · exact .inr ⟨g, cap, cur, hv, hg, (hb.block g (lt_of_block hh)).trans hh, r⟩
/-- A slice of records of the call's own: its value. -/
def Own (w : World) (B : Nat) (v : Value) (L : List Rec) : Prop := w.ownsRow B 28 4 v L.length (rcs L)
theorem Own.nil (w : World) (B : Nat) : Own w B (.slice none 0 0) [] := World.ownsRow_nil _ _ _ _
theorem Own.nf {w w' : World} {B D base : Nat} {bi : Int} {s : ByteArray} {ok : Bool} {v : Value} {L : List Rec} (h : Own w B v L) (hr : RDS w D bi s ok) (hf : NF D w w') : Own w' B v L := by
  refine ⟨h.1, ?_⟩
  rcases h.2 with hn | ⟨g, cap, cur, hv, hg, hh, r⟩
  · exact .inl hn
  · refine .inr ⟨g, cap, cur, hv, hg, (hf.block g (lt_of_block hh) ?_ ?_).trans hh, r⟩
    · rintro rfl; have := hr.hr; rw [hh] at this; cases this
    · rintro rfl; have := hr.ho; rw [hh] at this; cases this
theorem Own.below {w w' : World} {B : Nat} {v : Value} {L : List Rec} (h : Own w B v L) (hb : Below w.heap.size w w') : Own w' B v L := owns_below h hb
/-- The readers' closures stay where a row of records grows. -/
theorem RDS.grown {w w' : World} {D B : Nat} {bi : Int} {s : ByteArray} {ok : Bool} {v : Value} {L : List Rec} (h : RDS w D bi s ok) (ho : Own w B v L) (hg : w.grownBy w' v.ownBlock) : RDS w' D bi s ok := by
  have key : ∀ (k : Nat) (c : Array Value) (t : TypeId), w.heap[k]? = some (.cells c t (0, 0)) → t ≠ 28 → w'.heap[k]? = some (.cells c t (0, 0)) := by
    intro k c t hk ht
    refine (hg.block k (lt_of_block hk) (fun e => ?_)).trans hk
    rcases ho.2 with ⟨rfl, _⟩ | ⟨g, cap, cur, rfl, _, hh, _⟩
    · simp [Value.ownBlock] at e
    · have e' : k = g := by simpa [Value.ownBlock] using e
      subst e'
      rw [hk] at hh
      cases hh
      exact ht rfl
  exact ⟨key _ _ _ h.hb (by decide), key _ _ _ h.hr (by decide), key _ _ _ h.ho (by decide), key _ _ _ h.hn (by decide), key _ _ _ h.ht (by decide)⟩
theorem below_grown {B : Nat} {w w' : World} {v : Value} {E : TypeId} {n size : Nat} {xs : List Value} (ho : w.ownsRow B E size v n xs) (hg : w.grownBy w' v.ownBlock) (hB : B ≤ w.heap.size) : Below B w w' :=
  ⟨hg.os, hg.tape, hg.output, hg.size, fun k hk => hg.block k (by omega) (fun e => by
    rcases ho.2 with ⟨rfl, _⟩ | ⟨g, cap, cur, rfl, hB', _⟩
    · simp [Value.ownBlock] at e
    · have e' : k = g := by simpa [Value.ownBlock] using e
      omega)⟩
/-- What Of answers, and where it lies. -/
def OfEnd (w : World) (o : Option (List Rec)) (e : Ending) (w' : World) : Prop :=
  (∃ L v, o = some L ∧ e = .returned (.tuple #[v, .int .i64 0]) ∧ Own w' w.heap.size v L ∧ Below w.heap.size w w') ∨ (o = none ∧ e = .returned (.tuple #[.slice none 0 0, .int .i64 90]) ∧ Below w.heap.size w w')
theorem of_bad (s : ByteArray) (base n : Int) (w : World) (h : offB base = false ∨ n < 0) :
    Calls Try.prog 14 #[.string s, .int .i64 base, .int .i64 n] w fun e w' => OfEnd w none e w' := by
  have HO := isOffset_ok base
  obtain ⟨ob, hob⟩ : ∃ ob, offB base = ob := ⟨_, rfl⟩
  rw [hob] at HO h
  cases ob
  · go_enter Try.func14, Try.ntmps14
    go_wp2_with (go_at_call 18; refine (HO _).mono ?_; rintro e w' ⟨rfl, rfl⟩)
    go_ret2
    exact .inr ⟨rfl, rfl, Below.refl _ _⟩
  · have hn : n < 0 := h.resolve_left (by decide)
    go_enter Try.func14, Try.ntmps14
    go_wp2_with (go_at_call 18; refine (HO _).mono ?_; rintro e w' ⟨rfl, rfl⟩)
    go_ret2
    exact .inr ⟨rfl, rfl, Below.refl _ _⟩
/-- What a round keeps. -/
structure OR (w wr : World) (base : Int) (S : List UInt8) (v : Value) (M : List Rec) (R : List UInt8) (low : Int) : Prop where
  rd : rdN base M.length S = some (M, R)
  rds : RDS wr w.heap.size base (mk R) true
  own : Own wr w.heap.size v M
  bel : Below w.heap.size w wr
  low : low = lowB M base
  may : comes M base = true
  len : R.length ≤ S.length
theorem NextE.le {base : Int} {s : ByteArray} {off : Int} {key val : ByteArray} {gone : Bool} {t : ByteArray} {ok : Bool} (h : NextE base s off key val gone t ok) : key.size ≤ s.size ∧ val.size ≤ s.size ∧ t.size ≤ s.size := by
  obtain ⟨x1, s1, g1, x2, s2, g2, s3, g3, x3, s4, g4, h1, h2, h3, h4, rfl, h5⟩ := h
  have a1 := h1.le
  have a2 := h2.le
  have a3 := h3.le
  have a4 := h4.le
  rcases h5 with ⟨_, rfl, rfl, rfl, _⟩ | ⟨_, rfl, g5, h5, _⟩
  · exact ⟨by omega, Nat.zero_le _, by omega⟩
  · have a5 := h5.le
    exact ⟨by omega, by omega, by omega⟩
theorem news4 (W : World) (a b c d : Value) (t : TypeId) : ∀ j u, [a, b, c, d][j]? = some u → (W.alloc (.cells #[a, b, c, d] t)).cell? ((⟨W.heap.size, 0, none⟩ : Addr).add j) = some u := by
  intro j u h
  match j, h with
  | 0, h => simp at h; subst h; simp [Addr.add]
  | 1, h => simp at h; subst h; simp [Addr.add]
  | 2, h => simp at h; subst h; simp [Addr.add]
  | 3, h => simp at h; subst h; simp [Addr.add]
theorem one4 (off : Int) (key val : ByteArray) (gone : Bool) : ∀ u ∈ [Value.int .i64 off, .string key, .string val, .bool gone], u.oneCell' = true := by
  intro u hu
  simp only [List.mem_cons, List.not_mem_nil, or_false] at hu
  rcases hu with rfl | rfl | rfl | rfl <;> rfl
theorem isEmpty_mk (R : List UInt8) : (mk R).toList.isEmpty = R.isEmpty := by
  rw [ByteArray.toList_eq, mk_toList]
theorem Own.lt {w : World} {B : Nat} {v : Value} {L : List Rec} (h : Own w B v L) {k : Nat} (hk : w.heap.size ≤ k) : v.ownBlock ≠ some k := by
  rcases h.2 with ⟨rfl, _⟩ | ⟨g, cap, cur, rfl, _, hh, _⟩
  · simp [Value.ownBlock]
  · have := lt_of_block hh
    intro e
    have e' : g = k := by simpa [Value.ownBlock] using e
    omega
theorem OR.more {w wr w1 : World} {base : Int} {S : List UInt8} {v : Value} {M : List Rec} {R R' : List UInt8} {low : Int} {W : World} {r : Rec} {g cap : Nat} (h : OR w wr base S v M R low) (hr : rdRec base R = some (r, R')) (hm : (mayB r && decide (low ≤ r.off)) = true) (hR' : R'.length ≤ R.length)
    (hrd : RDS W w.heap.size base (Go.Proofs.Ytfjmcgdpiohnbaa.mk R') true) (hbW : Below w.heap.size w W) (hoW : Own W w.heap.size v M) (hg : W.grownBy w1 v.ownBlock)
    (ho : w1.ownsRow w.heap.size 28 4 (.slice (some ⟨g, 0, none⟩) (M.length + 1) cap) (M.length + 1) (rcs M ++ [.int .i64 r.off, .string r.key, .string r.val, .bool r.gone])) :
    OR w w1 base S (.slice (some ⟨g, 0, none⟩) (M.length + 1) cap) (M ++ [r]) R' (r.off + 1) := by
  refine ⟨?_, hrd.grown hoW hg, ?_, hbW.trans (below_grown hoW hg hbW.size), (lowB_snoc _ _ _).symm, ?_, by have := h.len; omega⟩
  · rw [List.length_append]; exact rdN_snoc h.rd hr
  · show w1.ownsRow _ _ _ _ (M ++ [r]).length (rcs (M ++ [r]))
    rw [rcs_append, List.length_append]
    exact ho
  · rw [comes_append, h.may, Bool.true_and, ← h.low]
    simp only [comes, hm, Bool.and_true]
set_option maxHeartbeats 2000000 in
theorem of_walk (S : List UInt8) (base : Int) (n : Nat) (w : World) (hb : offB base = true) (hn : n ≤ 9223372036854775807) (hsz : S.length ≤ 140737488355328) :
    Calls Try.prog 14 #[.string (mk S), .int .i64 base, .int .i64 n] w fun e w' => OfEnd w (ofL base n S) e w' := by
  have HO := isOffset_ok base
  rw [hb] at HO
  obtain ⟨hb0, hb1⟩ : 0 ≤ base ∧ base < 1099511627776 := by unfold offB at hb; simpa using hb
  obtain ⟨i0, hi, hz0, hz1, hz2⟩ := info_split recInfo
  have HI : Hid (Try.prog.info? 28 = some i0 ∧ i0.zero = some (.agg #[.int .i64 0, .string ⟨#[]⟩, .string ⟨#[]⟩, .bool false]) ∧ i0.size = 4 ∧ i0.bytes = 48) := ⟨hi, hz0, hz1, hz2⟩
  clear hi hz0 hz1 hz2
  obtain ⟨res, hres⟩ : ∃ res, ofL base n S = res := ⟨_, rfl⟩
  rw [hres]
  have HRES : Hid (ofL base n S = res) := hres
  clear hres
  go_enter Try.func14, Try.ntmps14
  go_wp2_with (first | (go_at_call 18; refine (HO _).mono ?_; rintro e w' ⟨rfl, hw⟩; obtain rfl := hw.symm) | (go_at_call 24; refine (reader_ok _ _ _).mono ?_; rintro e w1 ⟨rfl, hR, hB⟩; simp only [nextV, endV, pv]; have HST : Hid (OR w w1 base S (.slice none 0 0) [] S base) := ⟨rfl, hR, Own.nil _ _, hB, rfl, rfl, Nat.le_refl _⟩; clear hR hB))
  go_loopw [10, 11, 29] (fun v lw i wr => ∃ (V : Value) (M : List Rec) (R : List UInt8) (low : Int), V = v ∧ i = .int .i64 (M.length : Nat) ∧ lw = .int .i64 low ∧ M.length ≤ n ∧ OR w wr base S V M R low) (fun _ _ i _ => n - (intOf i).toNat)
  case atStart => exact ⟨_, [], S, base, rfl, rfl, rfl, Nat.zero_le _, HST.out⟩
  case round =>
    obtain ⟨V, M, R, low, rfl, rfl, rfl, hMn, hr⟩ := hrel
    have HR : Hid (OR w wr base S V M R low) := hr
    have hlen := hr.len
    have hbs := hr.bel.size
    have hcnt := comes_small M base hr.may hb0
    clear hr
    by_cases hlt : M.length < n
    · have hlti : (M.length : Int) < (n : Int) := by omega
      obtain ⟨k, hk⟩ : ∃ k, n = M.length + (k + 1) := ⟨n - M.length - 1, by omega⟩
      have HKK : Hid (n = M.length + (k + 1)) := hk
      clear hk
      go_wp2_with fail
      refine (next_ok w.heap.size base (mk R) _ HR.out.rds (by rw [mk_size]; omega) hb0 hb1).mono ?_
      rintro e w2 ⟨off, key, val, gone, t, ok, rfl, hN, hD, hF⟩
      have hle := hN.le
      rw [mk_size] at hle
      obtain ⟨hkey, hval, htl⟩ := hle
      have hO2 : Own w2 w.heap.size V M := HR.out.own.nf (base := 0) HR.out.rds hF
      have HO2 : Hid (Own w2 w.heap.size V M) := hO2
      have HB2 : Hid (Below w.heap.size w w2) := HR.out.bel.trans (hF.below (Nat.le_refl _) hbs)
      have hs2 : w.heap.size ≤ w2.heap.size := Nat.le_trans hbs hF.size
      clear hO2
      have hBa : Below w2.heap.size w2 (w2.alloc (.cells #[.int .i64 off, .string key, .string val, .bool gone] 28)) := (Below.refl _ _).alloc (Nat.le_refl _) _
      have HA : Hid (Below w2.heap.size w2 (w2.alloc (.cells #[.int .i64 off, .string key, .string val, .bool gone] 28))) := hBa
      rcases next_is base R off key val gone t ok hN with ⟨R', hR', rfl, rfl⟩ | ⟨hR', rfl⟩
      · have HRD : Hid (rdRec base R = some (⟨off, key, val, gone⟩, R')) := hR'
        have HD : Hid (RDS w2 w.heap.size base (mk R') true) := hD
        rw [mk_size] at htl
        have HC : Hid (∀ W, Calls Try.prog 19 #[.agg #[.int .i64 off, .string key, .string val, .bool gone], .int .i64 low] W fun e w' => e = .returned (.bool (mayB ⟨off, key, val, gone⟩ && decide (low ≤ off))) ∧ Below W.heap.size W w') := fun W => mayCome_ok off low key val gone W (by omega) (by omega)
        have hRB : RB (w2.alloc (.cells #[.int .i64 off, .string key, .string val, .bool gone] 28)) w2.heap.size off key val gone := heap_alloc_new _ _
        have HRB : Hid (RB (w2.alloc (.cells #[.int .i64 off, .string key, .string val, .bool gone] 28)) w2.heap.size off key val gone) := hRB
        clear hN hD hF hR' hBa hRB
        obtain ⟨rb, hrb⟩ : ∃ rb, w2.heap.size = rb := ⟨_, rfl⟩
        have hrl : rb < (w2.alloc (.cells #[.int .i64 off, .string key, .string val, .bool gone] 28)).heap.size := by simp; omega
        rw [hrb] at HRB hs2
        have HS : Hid (w2.heap.size = rb) := hrb
        generalize hWA : (w2.alloc (.cells #[.int .i64 off, .string key, .string val, .bool gone] 28)) = wA at HRB HA hrl
        go_upto_region 9 with fail
        clear hWA
        obtain ⟨d0, d1, d2, d3⟩ := HRB.out.cells
        go_wp2_with fail
        refine (HC.out _).mono ?_
        rintro e w3 ⟨rfl, hb3⟩
        have HB3 : Hid (Below w2.heap.size w2 w3) := HA.out.trans (hb3.mono HA.out.size)
        have HRB3 : Hid (RB w3 rb off key val gone) := (hb3.block rb hrl).trans HRB.out
        clear hb3 d0 d1 d2 d3
        obtain ⟨d0, d1, d2, d3⟩ := HRB3.out.cells
        by_cases hm : (mayB ⟨off, key, val, gone⟩ && decide (low ≤ off)) = true
        · have HM : Hid ((mayB ⟨off, key, val, gone⟩ && decide (low ≤ off)) = true) := hm
          rw [hm]
          clear hm
          have HOW : Hid (∀ o, Own (w3.alloc o) w.heap.size V M ∧ w.heap.size ≤ (w3.alloc o).heap.size) := fun o =>
            ⟨(HO2.out.below HB3.out).below ((Below.refl _ _).alloc (Nat.le_refl _) _), by have := HB3.out.size; have := HS.out; simp; omega⟩
          go_wp2_with (at_builtin; refine wpList_append_lies _ rfl _ _ 22 rfl w.heap.size 28 i0 (.agg #[.int .i64 0, .string ⟨#[]⟩, .string ⟨#[]⟩, .bool false]) 4 48 Try.underlying22 HI.out.1 HI.out.2.1 HI.out.2.2.1 HI.out.2.2.2 rfl (by decide) V M.length (rcs M) rfl (HOW.out _).1 ⟨w3.heap.size, 0, none⟩ 1 1 [.int .i64 off, .string key, .string val, .bool gone] rfl rfl ?c1 ?c2 (by decide) ?c3 ?c4 (HOW.out _).2 _ rfl ?_)
          case c1 => exact news4 _ _ _ _ _ _
          case c2 => exact one4 _ _ _ _
          case c3 => unfold maxLen; omega
          case c4 => omega
          intro g cap w4 hown hgrow hat hgl
          have HE : Hid (OR w w4 base S (.slice (some ⟨g, 0, none⟩) (M.length + 1) cap) (M ++ [⟨off, key, val, gone⟩]) R' (off + 1)) := by
            have hW3 : Below w2.heap.size w2 (w3.alloc (.cells #[.int .i64 off, .string key, .string val, .bool gone] 28)) := HB3.out.alloc HB3.out.size _
            exact HR.out.more HRD.out HM.out htl (HD.out.below hW3) (HB2.out.trans (hW3.mono HB2.out.size)) (HO2.out.below hW3) hgrow hown
          have d4 : w4.cell? ⟨rb, 0, none⟩ = some (.int .i64 off) := by
            have h1 : RB (w3.alloc (.cells #[.int .i64 off, .string key, .string val, .bool gone] 28)) rb off key val gone := (((Below.refl _ w3).alloc (Nat.le_refl _) _).block rb (lt_of_block HRB3.out)).trans HRB3.out
            have h2 : RB w4 rb off key val gone := (hgrow.block rb (lt_of_block h1) (fun e => HO2.out.lt (show w2.heap.size ≤ rb by have := HS.out; omega) e.symm)).trans h1
            exact h2.cells.1
          obtain ⟨ho1, ho2⟩ : 0 ≤ off ∧ off < 1099511627776 := by
            have h2 := HM.out
            rw [Bool.and_eq_true] at h2
            have := ((mayB_iff _).1 h2.1).1
            unfold offB at this
            simpa using this
          clear hown hgrow hat hgl d0 d1 d2 d3
          go_wp2
          go_roundw
          case rel => exact ⟨_, M ++ [⟨off, key, val, gone⟩], R', off + 1, rfl, by simp, rfl, by simp; omega, HE.out⟩
          case measure => simp [intOf]; omega
        · have hm' : (mayB ⟨off, key, val, gone⟩ && decide (low ≤ off)) = false := by simpa using hm
          have HM : Hid (res = none) := by
            rw [← HRES.out, HKK.out]
            refine ofL_bad HR.out.rd HRD.out ?_
            rw [comes_append, HR.out.may, Bool.true_and, ← HR.out.low]
            simp only [comes, hm', Bool.false_and]
          rw [hm']
          clear hm hm'
          have HBE : Hid (Below w.heap.size w w3) := HB2.out.trans (HB3.out.mono HB2.out.size)
          go_wp2
          go_ret2
          exact .inr ⟨HM.out, rfl, HBE.out⟩
      · have HM : Hid (res = none) := by
          rw [← HRES.out, HKK.out]
          exact ofL_more HR.out.rd hR'
        have HBE : Hid (Below w.heap.size w (w2.alloc (.cells #[.int .i64 off, .string key, .string val, .bool gone] 28))) := HB2.out.trans (HA.out.mono HB2.out.size)
        clear hN hD hF hR' hBa
        go_wp2
        go_ret2
        exact .inr ⟨HM.out, rfl, HBE.out⟩
    · have hML : M.length = n := by omega
      have HE : Hid (res = if R.isEmpty then some M else none) := by
        rw [← HRES.out, ← hML]
        exact ofL_end HR.out.rd HR.out.may
      have hnlt : ¬ (M.length : Int) < (n : Int) := by omega
      cases hRe : R with
      | nil =>
        rw [hRe] at HE HR
        have HF : Hid (∀ W, RDS W w.heap.size base (mk []) true → Calls Try.prog 35 #[.pointer (some ⟨w.heap.size + 1, 0, none⟩)] W fun e w' => e = .returned (.bool true) ∧ w' = W) := fun W h => by
          have := ended_ok _ _ _ _ _ h
          rw [isEmpty_mk] at this
          exact this
        clear hRe hlen
        go_wp2_with fail
        refine (HF.out _ HR.out.rds).mono ?_
        rintro e w2 ⟨rfl, hw2⟩
        obtain rfl := hw2.symm
        go_wp2
        go_ret2
        exact .inl ⟨M, V, HE.out, rfl, HR.out.own, HR.out.bel⟩
      | cons x R2 =>
        rw [hRe] at HE HR
        have HF : Hid (∀ W, RDS W w.heap.size base (mk (x :: R2)) true → Calls Try.prog 35 #[.pointer (some ⟨w.heap.size + 1, 0, none⟩)] W fun e w' => e = .returned (.bool false) ∧ w' = W) := fun W h => by
          have := ended_ok _ _ _ _ _ h
          rw [isEmpty_mk] at this
          exact this
        clear hRe hlen
        go_wp2_with fail
        refine (HF.out _ HR.out.rds).mono ?_
        rintro e w2 ⟨rfl, hw2⟩
        obtain rfl := hw2.symm
        go_wp2
        go_ret2
        exact .inr ⟨HE.out, rfl, HR.out.bel⟩
/-- What Of answers of whatever bytes. -/
noncomputable def ofO (S : List UInt8) (base n : Int) : Option (List Rec) := if offB base = true ∧ 0 ≤ n then ofL base n.toNat S else none
theorem of_ok (S : List UInt8) (base n : Int) (w : World) (hn : n ≤ 9223372036854775807) (hsz : S.length ≤ 140737488355328) :
    Calls Try.prog 14 #[.string (mk S), .int .i64 base, .int .i64 n] w fun e w' => OfEnd w (ofO S base n) e w' := by
  unfold ofO
  by_cases h : offB base = true ∧ 0 ≤ n
  · rw [if_pos h]
    obtain ⟨N, rfl⟩ := Int.eq_ofNat_of_zero_le h.2
    exact of_walk S base N w h.1 (by omega) hsz
  · rw [if_neg h]
    refine of_bad (mk S) base n w ?_
    cases hb : offB base with
    | false => exact .inl rfl
    | true => exact .inr (by rw [hb] at h; simp at h; exact h)
end Go.Proofs.Ytfjmcgdpiohnbaa
