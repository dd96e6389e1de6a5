/- The records of bytes: Of. -/
/- What was written is read as it was; what lacks bytes is not read. -/
/- Two records held against one another; what must come, whatever the arguments are. -/
/- The document's functions: May, Check, number, Rise, Same. -/
import Derived.Test.YtalpbnkmppdgdaaV08
import Derived.Deep.AppendLies
import Derived.Laws.StructEq
namespace Go.Proofs.Ytalpbnkmppdgdaa
open Go.RowKit
set_option linter.unusedVariables false

/-- The cells of records. -/
def rcs : List Rec → List Value
  | [] => []
  | r :: L => r.cs ++ rcs L
theorem rcs_append (L M : List Rec) : rcs (L ++ M) = rcs L ++ rcs M := by
  induction L with
  | nil => rfl
  | cons x L ih => simp [rcs, ih]
theorem rcs_length (L : List Rec) : (rcs L).length = L.length * 4 := by
  induction L with
  | nil => rfl
  | cons x L ih => simp only [rcs, List.length_append, ih, List.length_cons]; show 4 + _ = _; omega
theorem rcs_get (L : List Rec) (i : Nat) (r : Rec) (h : L[i]? = some r) (j : Nat) (hj : j < 4) : (rcs L)[i * 4 + j]? = r.cs[j]? := by
  induction L generalizing i with
  | nil => simp at h
  | cons x L ih =>
    cases i with
    | zero =>
      simp at h
      subst h
      rw [rcs, List.getElem?_append_left (by show 0 * 4 + j < 4; omega)]
      simp
    | succ i =>
      simp at h
      rw [rcs, List.getElem?_append_right (by show 4 ≤ _; omega), show (i + 1) * 4 + j - x.cs.length = i * 4 + j by show (i + 1) * 4 + j - 4 = _; omega]
      exact ih i h
theorem add_zero_addr (g j : Nat) : (⟨g, 0, none⟩ : Addr).add j = ⟨g, j, none⟩ := by
  unfold Addr.add; split
  · subst_vars; rfl
  · simp
theorem RIn.nil (w : World) (a : Option Addr) : RIn w a [] := fun i r h => by simp at h
theorem RIn.owned {w : World} {B g n cap : Nat} {L : List Rec} (h : w.ownsRow B 56 4 (.slice (some ⟨g, 0, none⟩) n cap) n (rcs L)) (hg : g < w.heap.size) : RIn w (some ⟨g, 0, none⟩) L := by
  intro i r hr
  have hc := h.cells (g := g) rfl
  refine ⟨g, 0, rfl, hg, ?_, ?_, ?_, ?_⟩
  · have := hc (i * 4 + 0) _ (rcs_get L i r hr 0 (by omega)); rw [add_zero_addr] at this; simpa using this
  · have := hc (i * 4 + 1) _ (rcs_get L i r hr 1 (by omega)); rw [add_zero_addr] at this; simpa using this
  · have := hc (i * 4 + 2) _ (rcs_get L i r hr 2 (by omega)); rw [add_zero_addr] at this; simpa using this
  · have := hc (i * 4 + 3) _ (rcs_get L i r hr 3 (by omega)); rw [add_zero_addr] at this; simpa using this
theorem recInfo : (Try.prog.info? 56).map (fun i => (i.zero, i.size, i.bytes)) = some (some (.agg #[.int .i64 0, .string ⟨#[]⟩, .string ⟨#[]⟩, .bool false]), 4, 48) := by kernel_rfl
theorem info_split {t : TypeId} {z : Option Value} {n m : Nat} (h : (Try.prog.info? t).map (fun i => (i.zero, i.size, i.bytes)) = some (z, n, m)) : ∃ i, Try.prog.info? t = some i ∧ i.zero = z ∧ i.size = n ∧ i.bytes = m := by
  cases e : Try.prog.info? t with
  | none => rw [e] at h; simp at h
  | some i => rw [e] at h; simp at h; exact ⟨i, rfl, h.1, h.2.1, h.2.2⟩
theorem owns_below {w w' : World} {B : Nat} {E : TypeId} {size n : Nat} {v : Value} {xs : List Value} (h : w.ownsRow B E size v n xs) (hb : Below w.heap.size w w') : w'.ownsRow B E size v n xs := by
  refine ⟨h.1, ?_⟩
  rcases h.2 with hn | ⟨g, cap, cur, hv, hg, hh, r⟩
  · exact .inl hn
  · exact .inr ⟨g, cap, cur, hv, hg, (hb.block g (lt_of_block hh)).trans hh, r⟩
/-- A slice of records of the call's own: its value. -/
def Own (w : World) (B : Nat) (v : Value) (L : List Rec) : Prop := w.ownsRow B 56 4 v L.length (rcs L)
theorem Own.nil (w : World) (B : Nat) : Own w B (.slice none 0 0) [] := World.ownsRow_nil _ _ _ _
theorem Own.nf {w w' : World} {B D base : Nat} {bi : Int} {s : ByteArray} {ok : Bool} {v : Value} {L : List Rec} (h : Own w B v L) (hr : RDS w D bi s ok) (hf : NF D w w') : Own w' B v L := by
  refine ⟨h.1, ?_⟩
  rcases h.2 with hn | ⟨g, cap, cur, hv, hg, hh, r⟩
  · exact .inl hn
  · refine .inr ⟨g, cap, cur, hv, hg, (hf.block g (lt_of_block hh) ?_ ?_).trans hh, r⟩
    · rintro rfl; have := hr.hr; rw [hh] at this; cases this
    · rintro rfl; have := hr.ho; rw [hh] at this; cases this
theorem Own.below {w w' : World} {B : Nat} {v : Value} {L : List Rec} (h : Own w B v L) (hb : Below w.heap.size w w') : Own w' B v L := owns_below h hb
/-- The readers' closures stay where a row of records grows. -/
theorem RDS.grown {w w' : World} {D B : Nat} {bi : Int} {s : ByteArray} {ok : Bool} {v : Value} {L : List Rec} (h : RDS w D bi s ok) (ho : Own w B v L) (hg : w.grownBy w' v.ownBlock) : RDS w' D bi s ok := by
  have key : ∀ (k : Nat) (c : Array Value) (t : TypeId), w.heap[k]? = some (.cells c t (0, 0)) → t ≠ 56 → w'.heap[k]? = some (.cells c t (0, 0)) := by
    intro k c t hk ht
    refine (hg.block k (lt_of_block hk) (fun e => ?_)).trans hk
    rcases ho.2 with ⟨rfl, _⟩ | ⟨g, cap, cur, rfl, _, hh, _⟩
    · simp [Value.ownBlock] at e
    · have e' : k = g := by simpa [Value.ownBlock] using e
      subst e'
      rw [hk] at hh
      cases hh
      exact ht rfl
  exact ⟨key _ _ _ h.hb (by decide), key _ _ _ h.hr (by decide), key _ _ _ h.ho (by decide), key _ _ _ h.hn (by decide), key _ _ _ h.ht (by decide)⟩
theorem below_grown {B : Nat} {w w' : World} {v : Value} {E : TypeId} {n size : Nat} {xs : List Value} (ho : w.ownsRow B E size v n xs) (hg : w.grownBy w' v.ownBlock) (hB : B ≤ w.heap.size) : Below B w w' :=
  ⟨hg.os, hg.tape, hg.output, hg.size, fun k hk => hg.block k (by omega) (fun e => by
    rcases ho.2 with ⟨rfl, _⟩ | ⟨g, cap, cur, rfl, hB', _⟩
    · simp [Value.ownBlock] at e
    · have e' : k = g := by simpa [Value.ownBlock] using e
      omega)⟩
/-- What Of answers, and where it lies. -/
def OfEnd (w : World) (o : Option (List Rec)) (e : Ending) (w' : World) : Prop :=
  (∃ L v, o = some L ∧ e = .returned (.tuple #[v, .int .i64 0]) ∧ Own w' w.heap.size v L ∧ Below w.heap.size w w') ∨ (o = none ∧ e = .returned (.tuple #[.slice none 0 0, .int .i64 90]) ∧ Below w.heap.size w w')
theorem of_bad (s : ByteArray) (base n : Int) (w : World) (h : offB base = false ∨ n < 0) :
    Calls Try.prog 46 #[.string s, .int .i64 base, .int .i64 n] w fun e w' => OfEnd w none e w' := by
  have HO := isOffset_ok base
  obtain ⟨ob, hob⟩ : ∃ ob, offB base = ob := ⟨_, rfl⟩
  rw [hob] at HO h
  cases ob
  · go_enter Try.func46, Try.ntmps46
    go_wp2_with (go_at_call 50; refine (HO _).mono ?_; rintro e w' ⟨rfl, rfl⟩)
    go_ret2
    exact .inr ⟨rfl, rfl, Below.refl _ _⟩
  · have hn : n < 0 := h.resolve_left (by decide)
    go_enter Try.func46, Try.ntmps46
    go_wp2_with (go_at_call 50; refine (HO _).mono ?_; rintro e w' ⟨rfl, rfl⟩)
    go_ret2
    exact .inr ⟨rfl, rfl, Below.refl _ _⟩
/-- What a round keeps. -/
structure OR (w wr : World) (base : Int) (S : List UInt8) (v : Value) (M : List Rec) (R : List UInt8) (low : Int) : Prop where
  rd : rdN base M.length S = some (M, R)
  rds : RDS wr w.heap.size base (mk R) true
  own : Own wr w.heap.size v M
  bel : Below w.heap.size w wr
  low : low = lowB M base
  may : comes M base = true
  len : R.length ≤ S.length
theorem NextE.le {base : Int} {s : ByteArray} {off : Int} {key val : ByteArray} {gone : Bool} {t : ByteArray} {ok : Bool} (h : NextE base s off key val gone t ok) : key.size ≤ s.size ∧ val.size ≤ s.size ∧ t.size ≤ s.size := by
  obtain ⟨x1, s1, g1, x2, s2, g2, s3, g3, x3, s4, g4, h1, h2, h3, h4, rfl, h5⟩ := h
  have a1 := h1.le
  have a2 := h2.le
  have a3 := h3.le
  have a4 := h4.le
  rcases h5 with ⟨_, rfl, rfl, rfl, _⟩ | ⟨_, rfl, g5, h5, _⟩
  · exact ⟨by omega, Nat.zero_le _, by omega⟩
  · have a5 := h5.le
    exact ⟨by omega, by omega, by omega⟩
theorem news4 (W : World) (a b c d : Value) (t : TypeId) : ∀ j u, [a, b, c, d][j]? = some u → (W.alloc (.cells #[a, b, c, d] t)).cell? ((⟨W.heap.size, 0, none⟩ : Addr).add j) = some u := by
  intro j u h
  match j, h with
  | 0, h => simp at h; subst h; simp [Addr.add]
  | 1, h => simp at h; subst h; simp [Addr.add]
  | 2, h => simp at h; subst h; simp [Addr.add]
  | 3, h => simp at h; subst h; simp [Addr.add]
theorem one4 (off : Int) (key val : ByteArray) (gone : Bool) : ∀ u ∈ [Value.int .i64 off, .string key, .string val, .bool gone], u.oneCell' = true := by
  intro u hu
  simp only [List.mem_cons, List.not_mem_nil, or_false] at hu
  rcases hu with rfl | rfl | rfl | rfl <;> rfl
theorem isEmpty_mk (R : List UInt8) : (mk R).toList.isEmpty = R.isEmpty := by
  rw [ByteArray.toList_eq, mk_toList]
theorem Own.lt {w : World} {B : Nat} {v : Value} {L : List Rec} (h : Own w B v L) {k : Nat} (hk : w.heap.size ≤ k) : v.ownBlock ≠ some k := by
  rcases h.2 with ⟨rfl, _⟩ | ⟨g, cap, cur, rfl, _, hh, _⟩
  · simp [Value.ownBlock]
  · have := lt_of_block hh
    intro e
    have e' : g = k := by simpa [Value.ownBlock] using e
    omega
theorem OR.more {w wr w1 : World} {base : Int} {S : List UInt8} {v : Value} {M : List Rec} {R R' : List UInt8} {low : Int} {W : World} {r : Rec} {g cap : Nat} (h : OR w wr base S v M R low) (hr : rdRec base R = some (r, R')) (hm : (mayB r && decide (low ≤ r.off)) = true) (hR' : R'.length ≤ R.length)
    (hrd : RDS W w.heap.size base (Go.Proofs.Ytalpbnkmppdgdaa.mk R') true) (hbW : Below w.heap.size w W) (hoW : Own W w.heap.size v M) (hg : W.grownBy w1 v.ownBlock)
    (ho : w1.ownsRow w.heap.size 56 4 (.slice (some ⟨g, 0, none⟩) (M.length + 1) cap) (M.length + 1) (rcs M ++ [.int .i64 r.off, .string r.key, .string r.val, .bool r.gone])) :
    OR w w1 base S (.slice (some ⟨g, 0, none⟩) (M.length + 1) cap) (M ++ [r]) R' (r.off + 1) := by
  refine ⟨?_, hrd.grown hoW hg, ?_, hbW.trans (below_grown hoW hg hbW.size), (lowB_snoc _ _ _).symm, ?_, by have := h.len; omega⟩
  · rw [List.length_append]; exact rdN_snoc h.rd hr
  · show w1.ownsRow _ _ _ _ (M ++ [r]).length (rcs (M ++ [r]))
    rw [rcs_append, List.length_append]
    exact ho
  · rw [comes_append, h.may, Bool.true_and, ← h.low]
    simp only [comes, hm, Bool.and_true]
set_option maxHeartbeats 2000000 in
theorem of_walk (S : List UInt8) (base : Int) (n : Nat) (w : World) (hb : offB base = true) (hn : n ≤ 9223372036854775807) (hsz : S.length ≤ 140737488355328) :
    Calls Try.prog 46 #[.string (mk S), .int .i64 base, .int .i64 n] w fun e w' => OfEnd w (ofL base n S) e w' := by
  have HO := isOffset_ok base
  rw [hb] at HO
  obtain ⟨hb0, hb1⟩ : 0 ≤ base ∧ base < 1099511627776 := by unfold offB at hb; simpa using hb
  obtain ⟨i0, hi, hz0, hz1, hz2⟩ := info_split recInfo
  have HI : Hid (Try.prog.info? 56 = some i0 ∧ i0.zero = some (.agg #[.int .i64 0, .string ⟨#[]⟩, .string ⟨#[]⟩, .bool false]) ∧ i0.size = 4 ∧ i0.bytes = 48) := ⟨hi, hz0, hz1, hz2⟩
  clear hi hz0 hz1 hz2
  obtain ⟨res, hres⟩ : ∃ res, ofL base n S = res := ⟨_, rfl⟩
  rw [hres]
  have HRES : Hid (ofL base n S = res) := hres
  clear hres
  go_enter Try.func46, Try.ntmps46
  go_wp2_with (first | (go_at_call 50; refine (HO _).mono ?_; rintro e w' ⟨rfl, hw⟩; obtain rfl := hw.symm) | (go_at_call 54; refine (reader_ok _ _ _).mono ?_; rintro e w1 ⟨rfl, hR, hB⟩; simp only [nextV, endV, pv]; have HST : Hid (OR w w1 base S (.slice none 0 0) [] S base) := ⟨rfl, hR, Own.nil _ _, hB, rfl, rfl, Nat.le_refl _⟩; clear hR hB))
  go_loopw [10, 11, 29] (fun v lw i wr => ∃ (V : Value) (M : List Rec) (R : List UInt8) (low : Int), V = v ∧ i = .int .i64 (M.length : Nat) ∧ lw = .int .i64 low ∧ M.length ≤ n ∧ OR w wr base S V M R low) (fun _ _ i _ => n - (intOf i).toNat)
  case atStart => exact ⟨_, [], S, base, rfl, rfl, rfl, Nat.zero_le _, HST.out⟩
  case round =>
    obtain ⟨V, M, R, low, rfl, rfl, rfl, hMn, hr⟩ := hrel
    have HR : Hid (OR w wr base S V M R low) := hr
    have hlen := hr.len
    have hbs := hr.bel.size
    have hcnt := comes_small M base hr.may hb0
    clear hr
    by_cases hlt : M.length < n
    · have hlti : (M.length : Int) < (n : Int) := by omega
      obtain ⟨k, hk⟩ : ∃ k, n = M.length + (k + 1) := ⟨n - M.length - 1, by omega⟩
      have HKK : Hid (n = M.length + (k + 1)) := hk
      clear hk
      go_wp2_with fail
      refine (next_ok w.heap.size base (mk R) _ HR.out.rds (by rw [mk_size]; omega) hb0 hb1).mono ?_
      rintro e w2 ⟨off, key, val, gone, t, ok, rfl, hN, hD, hF⟩
      have hle := hN.le
      rw [mk_size] at hle
      obtain ⟨hkey, hval, htl⟩ := hle
      have hO2 : Own w2 w.heap.size V M := HR.out.own.nf (base := 0) HR.out.rds hF
      have HO2 : Hid (Own w2 w.heap.size V M) := hO2
      have HB2 : Hid (Below w.heap.size w w2) := HR.out.bel.trans (hF.below (Nat.le_refl _) hbs)
      have hs2 : w.heap.size ≤ w2.heap.size := Nat.le_trans hbs hF.size
      clear hO2
      have hBa : Below w2.heap.size w2 (w2.alloc (.cells #[.int .i64 off, .string key, .string val, .bool gone] 56)) := (Below.refl _ _).alloc (Nat.le_refl _) _
      have HA : Hid (Below w2.heap.size w2 (w2.alloc (.cells #[.int .i64 off, .string key, .string val, .bool gone] 56))) := hBa
      rcases next_is base R off key val gone t ok hN with ⟨R', hR', rfl, rfl⟩ | ⟨hR', rfl⟩
      · have HRD : Hid (rdRec base R = some (⟨off, key, val, gone⟩, R')) := hR'
        have HD : Hid (RDS w2 w.heap.size base (mk R') true) := hD
        rw [mk_size] at htl
        have HC : Hid (∀ W, Calls Try.prog 51 #[.agg #[.int .i64 off, .string key, .string val, .bool gone], .int .i64 low] W fun e w' => e = .returned (.bool (mayB ⟨off, key, val, gone⟩ && decide (low ≤ off))) ∧ Below W.heap.size W w') := fun W => mayCome_ok off low key val gone W (by omega) (by omega)
        have hRB : RB (w2.alloc (.cells #[.int .i64 off, .string key, .string val, .bool gone] 56)) w2.heap.size off key val gone := heap_alloc_new _ _
        have HRB : Hid (RB (w2.alloc (.cells #[.int .i64 off, .string key, .string val, .bool gone] 56)) w2.heap.size off key val gone) := hRB
        clear hN hD hF hR' hBa hRB
        obtain ⟨rb, hrb⟩ : ∃ rb, w2.heap.size = rb := ⟨_, rfl⟩
        have hrl : rb < (w2.alloc (.cells #[.int .i64 off, .string key, .string val, .bool gone] 56)).heap.size := by simp; omega
        rw [hrb] at HRB hs2
        have HS : Hid (w2.heap.size = rb) := hrb
        generalize hWA : (w2.alloc (.cells #[.int .i64 off, .string key, .string val, .bool gone] 56)) = wA at HRB HA hrl
        go_upto_region 9 with fail
        clear hWA
        obtain ⟨d0, d1, d2, d3⟩ := HRB.out.cells
        go_wp2_with fail
        refine (HC.out _).mono ?_
        rintro e w3 ⟨rfl, hb3⟩
        have HB3 : Hid (Below w2.heap.size w2 w3) := HA.out.trans (hb3.mono HA.out.size)
        have HRB3 : Hid (RB w3 rb off key val gone) := (hb3.block rb hrl).trans HRB.out
        clear hb3 d0 d1 d2 d3
        obtain ⟨d0, d1, d2, d3⟩ := HRB3.out.cells
        by_cases hm : (mayB ⟨off, key, val, gone⟩ && decide (low ≤ off)) = true
        · have HM : Hid ((mayB ⟨off, key, val, gone⟩ && decide (low ≤ off)) = true) := hm
          rw [hm]
          clear hm
          have HOW : Hid (∀ o, Own (w3.alloc o) w.heap.size V M ∧ w.heap.size ≤ (w3.alloc o).heap.size) := fun o =>
            ⟨(HO2.out.below HB3.out).below ((Below.refl _ _).alloc (Nat.le_refl _) _), by have := HB3.out.size; have := HS.out; simp; omega⟩
          go_wp2_with (at_builtin; refine wpList_append_lies _ rfl _ _ 26 rfl w.heap.size 56 i0 (.agg #[.int .i64 0, .string ⟨#[]⟩, .string ⟨#[]⟩, .bool false]) 4 48 Try.underlying26 HI.out.1 HI.out.2.1 HI.out.2.2.1 HI.out.2.2.2 rfl (by decide) V M.length (rcs M) rfl (HOW.out _).1 ⟨w3.heap.size, 0, none⟩ 1 1 [.int .i64 off, .string key, .string val, .bool gone] rfl rfl ?c1 ?c2 (by decide) ?c3 ?c4 (HOW.out _).2 _ rfl ?_)
          case c1 => exact news4 _ _ _ _ _ _
          case c2 => exact one4 _ _ _ _
          case c3 => unfold maxLen; omega
          case c4 => omega
          intro g cap w4 hown hgrow hat hgl
          have HE : Hid (OR w w4 base S (.slice (some ⟨g, 0, none⟩) (M.length + 1) cap) (M ++ [⟨off, key, val, gone⟩]) R' (off + 1)) := by
            have hW3 : Below w2.heap.size w2 (w3.alloc (.cells #[.int .i64 off, .string key, .string val, .bool gone] 56)) := HB3.out.alloc HB3.out.size _
            exact HR.out.more HRD.out HM.out htl (HD.out.below hW3) (HB2.out.trans (hW3.mono HB2.out.size)) (HO2.out.below hW3) hgrow hown
          have d4 : w4.cell? ⟨rb, 0, none⟩ = some (.int .i64 off) := by
            have h1 : RB (w3.alloc (.cells #[.int .i64 off, .string key, .string val, .bool gone] 56)) rb off key val gone := (((Below.refl _ w3).alloc (Nat.le_refl _) _).block rb (lt_of_block HRB3.out)).trans HRB3.out
            have h2 : RB w4 rb off key val gone := (hgrow.block rb (lt_of_block h1) (fun e => HO2.out.lt (show w2.heap.size ≤ rb by have := HS.out; omega) e.symm)).trans h1
            exact h2.cells.1
          obtain ⟨ho1, ho2⟩ : 0 ≤ off ∧ off < 1099511627776 := by
            have h2 := HM.out
            rw [Bool.and_eq_true] at h2
            have := ((mayB_iff _).1 h2.1).1
            unfold offB at this
            simpa using this
          clear hown hgrow hat hgl d0 d1 d2 d3
          go_wp2
          go_roundw
          case rel => exact ⟨_, M ++ [⟨off, key, val, gone⟩], R', off + 1, rfl, by simp, rfl, by simp; omega, HE.out⟩
          case measure => simp [intOf]; omega
        · have hm' : (mayB ⟨off, key, val, gone⟩ && decide (low ≤ off)) = false := by simpa using hm
          have HM : Hid (res = none) := by
            rw [← HRES.out, HKK.out]
            refine ofL_bad HR.out.rd HRD.out ?_
            rw [comes_append, HR.out.may, Bool.true_and, ← HR.out.low]
            simp only [comes, hm', Bool.false_and]
          rw [hm']
          clear hm hm'
          have HBE : Hid (Below w.heap.size w w3) := HB2.out.trans (HB3.out.mono HB2.out.size)
          go_wp2
          go_ret2
          exact .inr ⟨HM.out, rfl, HBE.out⟩
      · have HM : Hid (res = none) := by
          rw [← HRES.out, HKK.out]
          exact ofL_more HR.out.rd hR'
        have HBE : Hid (Below w.heap.size w (w2.alloc (.cells #[.int .i64 off, .string key, .string val, .bool gone] 56))) := HB2.out.trans (HA.out.mono HB2.out.size)
        clear hN hD hF hR' hBa
        go_wp2
        go_ret2
        exact .inr ⟨HM.out, rfl, HBE.out⟩
    · have hML : M.length = n := by omega
      have HE : Hid (res = if R.isEmpty then some M else none) := by
        rw [← HRES.out, ← hML]
        exact ofL_end HR.out.rd HR.out.may
      have hnlt : ¬ (M.length : Int) < (n : Int) := by omega
      cases hRe : R with
      | nil =>
        rw [hRe] at HE HR
        have HF : Hid (∀ W, RDS W w.heap.size base (mk []) true → Calls Try.prog 60 #[.pointer (some ⟨w.heap.size + 1, 0, none⟩)] W fun e w' => e = .returned (.bool true) ∧ w' = W) := fun W h => by
          have := ended_ok _ _ _ _ _ h
          rw [isEmpty_mk] at this
          exact this
        clear hRe hlen
        go_wp2_with fail
        refine (HF.out _ HR.out.rds).mono ?_
        rintro e w2 ⟨rfl, hw2⟩
        obtain rfl := hw2.symm
        go_wp2
        go_ret2
        exact .inl ⟨M, V, HE.out, rfl, HR.out.own, HR.out.bel⟩
      | cons x R2 =>
        rw [hRe] at HE HR
        have HF : Hid (∀ W, RDS W w.heap.size base (mk (x :: R2)) true → Calls Try.prog 60 #[.pointer (some ⟨w.heap.size + 1, 0, none⟩)] W fun e w' => e = .returned (.bool false) ∧ w' = W) := fun W h => by
          have := ended_ok _ _ _ _ _ h
          rw [isEmpty_mk] at this
          exact this
        clear hRe hlen
        go_wp2_with fail
        refine (HF.out _ HR.out.rds).mono ?_
        rintro e w2 ⟨rfl, hw2⟩
        obtain rfl := hw2.symm
        go_wp2
        go_ret2
        exact .inr ⟨HE.out, rfl, HR.out.bel⟩
/-- What Of answers of whatever bytes. -/
noncomputable def ofO (S : List UInt8) (base n : Int) : Option (List Rec) := if offB base = true ∧ 0 ≤ n then ofL base n.toNat S else none
theorem of_ok (S : List UInt8) (base n : Int) (w : World) (hn : n ≤ 9223372036854775807) (hsz : S.length ≤ 140737488355328) :
    Calls Try.prog 46 #[.string (mk S), .int .i64 base, .int .i64 n] w fun e w' => OfEnd w (ofO S base n) e w' := by
  unfold ofO
  by_cases h : offB base = true ∧ 0 ≤ n
  · rw [if_pos h]
    obtain ⟨N, rfl⟩ := Int.eq_ofNat_of_zero_le h.2
    exact of_walk S base N w h.1 (by omega) hsz
  · rw [if_neg h]
    refine of_bad (mk S) base n w ?_
    cases hb : offB base with
    | false => exact .inl rfl
    | true => exact .inr (by rw [hb] at h; simp at h; exact h)
end Go.Proofs.Ytalpbnkmppdgdaa
namespace Go.Proofs.Ytalpbnkmppdgdaa
open Go.RowKit
set_option linter.unusedVariables false

theorem drop_len {a b : List UInt8} : (a ++ b).drop a.length = b := by simp
theorem take_len {a b : List UInt8} : (a ++ b).take a.length = a := by simp
theorem wrap_small (x : Int) (h0 : 0 ≤ x) (h1 : x < 1099511627776) : IntKind.i64.wrap x = x := by
  rw [IntWalk.i64_left]
  exact IntWalk.wrap64_in x ⟨by omega, by omega⟩
/-- A record's bytes are read as the record. -/
theorem rdRec_recL (base : Int) (r : Rec) (R : List UInt8) (hm : mayB r = true) (h0 : 0 ≤ base) (h1 : base ≤ r.off) : rdRec base (recL base r ++ R) = some (r, R) := by
  obtain ⟨h2, h3, h4, h5⟩ := (mayB_iff r).1 hm
  obtain ⟨ho1, ho2⟩ : 0 ≤ r.off ∧ r.off < 1099511627776 := by unfold offB at h2; simpa using h2
  obtain ⟨off, key, val, gone⟩ := r
  simp only at h1 h3 h4 h5 ho1 ho2
  obtain ⟨d, hd⟩ : ∃ d : Nat, off - base = d := Int.eq_ofNat_of_zero_le (by omega)
  have hkl := data_len key
  have hvl := data_len val
  unfold rdRec recL
  simp only
  rw [show (off - base).toNat = d by omega]
  simp only [List.append_assoc]
  rw [varD_vb d _ (by omega)]
  simp only
  rw [drop_len, varD_vb key.size _ (by omega)]
  simp only
  rw [drop_len]
  have e1 : (key.data.toList ++ ((if gone = true then vb 0 else vb (val.size + 1) ++ val.data.toList) ++ R)).drop key.size = (if gone = true then vb 0 else vb (val.size + 1) ++ val.data.toList) ++ R := by rw [← hkl]; exact drop_len
  have e2 : (key.data.toList ++ ((if gone = true then vb 0 else vb (val.size + 1) ++ val.data.toList) ++ R)).take key.size = key.data.toList := by rw [← hkl]; exact take_len
  rw [if_pos (by rw [List.length_append]; omega), e1, e2, mk_data]
  have ew : IntKind.i64.wrap (base + (d : Nat)) = off := by rw [show base + (d : Nat) = off by omega]; exact wrap_small off ho1 ho2
  rw [ew]
  cases gone with
  | true =>
    simp only [if_true]
    rw [varD_vb 0 _ (by omega)]
    simp only
    rw [drop_len]
    have hv : val = ⟨#[]⟩ := by
      have h6 := h5 rfl
      rw [← mk_data val]
      have : val.data.toList = [] := List.eq_nil_of_length_eq_zero (by omega)
      rw [this]
      rfl
    rw [hv]
    rfl
  | false =>
    simp only [Bool.false_eq_true, if_false, List.append_assoc]
    rw [varD_vb (val.size + 1) _ (by omega)]
    simp only
    rw [if_neg (by omega), drop_len]
    have e3 : (val.data.toList ++ R).drop (val.size + 1 - 1) = R := by rw [Nat.add_sub_cancel, ← hvl]; exact drop_len
    have e4 : (val.data.toList ++ R).take (val.size + 1 - 1) = val.data.toList := by rw [Nat.add_sub_cancel, ← hvl]; exact take_len
    rw [e3, e4, if_pos (by rw [List.length_append]; omega), mk_data]
theorem comes_low {L : List Rec} {low low' : Int} (h : comes L low = true) (hl : low' ≤ low) : comes L low' = true := by
  cases L with
  | nil => rfl
  | cons r L =>
    simp only [comes, Bool.and_eq_true, decide_eq_true_eq] at h ⊢
    exact ⟨⟨h.1.1, by omega⟩, h.2⟩
theorem rdN_recsL (base : Int) (L : List Rec) (low : Int) (R : List UInt8) (hc : comes L low = true) (h0 : 0 ≤ base) (h1 : base ≤ low) : rdN base L.length (recsL base L ++ R) = some (L, R) := by
  induction L generalizing low with
  | nil => rfl
  | cons r L ih =>
    simp only [comes, Bool.and_eq_true, decide_eq_true_eq] at hc
    simp only [recsL, List.length_cons, rdN, List.append_assoc]
    rw [rdRec_recL base r _ hc.1.1 h0 (by omega)]
    simp only
    rw [ih (r.off + 1) hc.2 (by omega)]
/-- Of of Bytes. -/
theorem ofL_recsL (base : Int) (L : List Rec) (hc : comes L base = true) (h0 : 0 ≤ base) : ofL base L.length (recsL base L) = some L := by
  have h := rdN_recsL base L base [] hc h0 (Int.le_refl _)
  rw [List.append_nil] at h
  unfold ofL
  rw [h]
  simp only [hc]
  rfl
theorem ofL_behind (base : Int) (L : List Rec) (x : UInt8) (R : List UInt8) (hc : comes L base = true) (h0 : 0 ≤ base) : ofL base L.length (recsL base L ++ x :: R) = none := by
  have h := rdN_recsL base L base (x :: R) hc h0 (Int.le_refl _)
  unfold ofL
  rw [h]
  simp
theorem rdRec_nil (base : Int) : rdRec base [] = none := by
  unfold rdRec
  rw [varD_nil]
theorem ofL_one_more (base : Int) (L : List Rec) (hc : comes L base = true) (h0 : 0 ≤ base) : ofL base (L.length + 1) (recsL base L) = none := by
  have h := rdN_recsL base L base [] hc h0 (Int.le_refl _)
  rw [List.append_nil] at h
  exact ofL_more (k := 0) h (rdRec_nil base)
/-- What is read of a text's beginning is read of the text. -/
theorem rdRec_append {base : Int} {R R' : List UInt8} {r : Rec} (h : rdRec base R = some (r, R')) (m : List UInt8) : rdRec base (R ++ m) = some (r, R' ++ m) := by
  unfold rdRec at h ⊢
  cases h1 : varD (mk R) with
  | none => rw [h1] at h; cases h
  | some p =>
    obtain ⟨x1, n1⟩ := p
    have l1 := (varD_le h1).2.2.2
    rw [mk_size] at l1
    rw [varD_append h1]
    rw [h1] at h
    simp only at h ⊢
    rw [List.drop_append_of_le_length l1]
    cases h2 : varD (mk (R.drop n1)) with
    | none => rw [h2] at h; cases h
    | some p =>
      obtain ⟨x2, n2⟩ := p
      have l2 := (varD_le h2).2.2.2
      rw [mk_size] at l2
      rw [varD_append h2]
      rw [h2] at h
      simp only at h ⊢
      rw [List.drop_append_of_le_length l2]
      generalize (R.drop n1).drop n2 = Q at h ⊢
      by_cases h3 : x2 ≤ Q.length
      · rw [if_pos h3] at h
        rw [if_pos (by rw [List.length_append]; omega), List.drop_append_of_le_length h3, List.take_append_of_le_length h3]
        cases h4 : varD (mk (Q.drop x2)) with
        | none => rw [h4] at h; cases h
        | some p =>
          obtain ⟨x3, n3⟩ := p
          have l3 := (varD_le h4).2.2.2
          rw [mk_size] at l3
          rw [varD_append h4]
          rw [h4] at h
          simp only at h ⊢
          rw [List.drop_append_of_le_length l3]
          generalize (Q.drop x2).drop n3 = U at h ⊢
          by_cases h5 : x3 = 0
          · rw [if_pos h5] at h ⊢
            cases h
            rfl
          · rw [if_neg h5] at h ⊢
            by_cases h6 : x3 - 1 ≤ U.length
            · rw [if_pos h6] at h
              rw [if_pos (by rw [List.length_append]; omega), List.drop_append_of_le_length h6, List.take_append_of_le_length h6]
              cases h
              rfl
            · rw [if_neg h6] at h; cases h
      · rw [if_neg h3] at h; cases h
theorem rdN_append {base : Int} {n : Nat} {R R' : List UInt8} {L : List Rec} (h : rdN base n R = some (L, R')) (m : List UInt8) : rdN base n (R ++ m) = some (L, R' ++ m) := by
  induction n generalizing R L R' with
  | zero => simp only [rdN] at h ⊢; cases h; rfl
  | succ n ih =>
    simp only [rdN] at h ⊢
    cases hr : rdRec base R with
    | none => rw [hr] at h; cases h
    | some p =>
      obtain ⟨r, R1⟩ := p
      rw [rdRec_append hr]
      rw [hr] at h
      simp only at h ⊢
      cases hn : rdN base n R1 with
      | none => rw [hn] at h; cases h
      | some p =>
        obtain ⟨L1, R2⟩ := p
        rw [ih hn]
        rw [hn] at h
        cases h
        rfl
/-- Bytes of records that lack some are none. -/
theorem ofL_cut (base : Int) (L : List Rec) (k : Nat) (hc : comes L base = true) (h0 : 0 ≤ base) (hk : k < (recsL base L).length) : ofL base L.length ((recsL base L).take k) = none := by
  unfold ofL
  cases h : rdN base L.length ((recsL base L).take k) with
  | none => rfl
  | some p =>
    obtain ⟨M, R'⟩ := p
    have h1 := rdN_append h ((recsL base L).drop k)
    rw [List.take_append_drop] at h1
    have h2 := rdN_recsL base L base [] hc h0 (Int.le_refl _)
    rw [List.append_nil, h1] at h2
    have h3 : R' ++ (recsL base L).drop k = [] := by
      have := Option.some.inj h2
      exact congrArg Prod.snd this
    have h4 : ((recsL base L).drop k).length = 0 := by
      have := congrArg List.length h3
      simp only [List.length_append, List.length_nil] at this
      omega
    rw [List.length_drop] at h4
    omega
/-- Records that are all higher by as much. -/
def shift (k : Int) (r : Rec) : Rec := ⟨r.off + k, r.key, r.val, r.gone⟩
theorem recL_shift (base k : Int) (r : Rec) : recL (base + k) (shift k r) = recL base r := by
  unfold recL shift
  simp only
  rw [show r.off + k - (base + k) = r.off - base by omega]
theorem recsL_shift (base k : Int) (L : List Rec) : recsL (base + k) (L.map (shift k)) = recsL base L := by
  induction L with
  | nil => rfl
  | cons r L ih => simp only [List.map_cons, recsL, ih, recL_shift]
theorem comes_shift (low k : Int) (L : List Rec) (hk : 0 ≤ k) (hl : ∀ r ∈ L, r.off + k < 1099511627776) (h : comes L low = true) : comes (L.map (shift k)) (low + k) = true := by
  induction L generalizing low with
  | nil => rfl
  | cons r L ih =>
    simp only [comes, Bool.and_eq_true, decide_eq_true_eq] at h
    simp only [List.map_cons, comes, Bool.and_eq_true, decide_eq_true_eq]
    have hr := (mayB_iff r).1 h.1.1
    refine ⟨⟨(mayB_iff _).2 ⟨?_, hr.2⟩, ?_⟩, ?_⟩
    · have h1 := hr.1
      have h2 := hl r List.mem_cons_self
      unfold offB at h1 ⊢
      simp only [Bool.and_eq_true, decide_eq_true_eq] at h1 ⊢
      exact ⟨by show 0 ≤ r.off + k; omega, by show r.off + k < _; omega⟩
    · show low + k ≤ r.off + k; omega
    · have := ih (r.off + 1) (fun x hx => hl x (List.mem_cons_of_mem _ hx)) h.2
      rw [show r.off + 1 + k = (shift k r).off + 1 by show _ = r.off + k + 1; omega] at this
      exact this
end Go.Proofs.Ytalpbnkmppdgdaa
namespace Go.Proofs.Ytalpbnkmppdgdaa
open Go.RowKit
set_option linter.unusedVariables false

/-- Are two records the same? -/
def eqR (a : Int) (k v : ByteArray) (g : Bool) (a' : Int) (k' v' : ByteArray) (g' : Bool) : Bool := (a == a') && ((k.toList == k'.toList) && ((v.toList == v'.toList) && (g == g')))
theorem eql_rec (a a' : Int) (k v k' v' : ByteArray) (g g' : Bool) (w : World) :
    (Op.equalIn 10000 56 (.agg #[.int .i64 a, .string k, .string v, .bool g]) (.agg #[.int .i64 a', .string k', .string v', .bool g'])).run Try.prog w = .ok (eqR a k v g a' k' v' g') w := by
  rw [run_equalIn_struct w 9999 _ _ _ (by kernel_rfl) (by kernel_rfl)]
  simp only [Program.fieldsOf, Try.underlying56]
  simp [Op.eqFields, go_sem]
  unfold eqR
  by_cases h1 : a = a'
  · by_cases h2 : k.toList = k'.toList
    · by_cases h3 : v.toList = v'.toList
      · by_cases h4 : g = g'
        · simp [h1, h2, h3, h4]
        · simp [h1, h2, h3, h4]
      · simp [h1, h2, h3]
    · simp [h1, h2]
  · simp [h1]
theorem run_eqlR (a a' : Int) (k v k' v' : ByteArray) (g g' : Bool) (w : World) :
    (binOp .eql 56 (.agg #[.int .i64 a, .string k, .string v, .bool g]) (.agg #[.int .i64 a', .string k', .string v', .bool g'])).run Try.prog w = .ok (.bool (eqR a k v g a' k' v' g')) w := by
  rw [run_eql_struct, eql_rec]
  rfl
theorem run_neqR (a a' : Int) (k v k' v' : ByteArray) (g g' : Bool) (w : World) :
    (binOp .neq 56 (.agg #[.int .i64 a, .string k, .string v, .bool g]) (.agg #[.int .i64 a', .string k', .string v', .bool g'])).run Try.prog w = .ok (.bool (!eqR a k v g a' k' v' g')) w := by
  rw [run_neq_struct, eql_rec]
  rfl
theorem eqR_self (a : Int) (k v : ByteArray) (g : Bool) : eqR a k v g a k v g = true := by simp [eqR]
theorem toList_inj {a b : ByteArray} (h : a.toList = b.toList) : a = b := by
  rw [ByteArray.toList_eq, ByteArray.toList_eq] at h
  rw [← mk_data a, ← mk_data b, h]
theorem eqR_iff (p q : Rec) : eqR p.off p.key p.val p.gone q.off q.key q.val q.gone = true ↔ p = q := by
  constructor
  · intro h
    simp only [eqR, Bool.and_eq_true, beq_iff_eq] at h
    obtain ⟨h1, h2, h3, h4⟩ := h
    obtain ⟨a, b, c, d⟩ := p
    obtain ⟨a', b', c', d'⟩ := q
    simp only at h1 h2 h3 h4
    rw [h1, toList_inj h2, toList_inj h3, h4]
  · rintro rfl; exact eqR_self _ _ _ _
theorem Own.row {w : World} {B : Nat} {v : Value} {r : Rec} {L : List Rec} (h : Own w B v (r :: L)) : ∃ g cap, v = .slice (some ⟨g, 0, none⟩) (L.length + 1) cap ∧ g < w.heap.size ∧ B ≤ g ∧ RIn w (some ⟨g, 0, none⟩) (r :: L) := by
  have h' := h
  rcases h.2 with ⟨rfl, h0⟩ | ⟨g, cap, cur, rfl, hB, hh, _⟩
  · simp at h0
  · exact ⟨g, cap, rfl, lt_of_block hh, hB, RIn.owned h' (lt_of_block hh)⟩
theorem rin_new (w : World) (r : Rec) : RIn (w.alloc (.cells #[.int .i64 r.off, .string r.key, .string r.val, .bool r.gone] 56)) (some ⟨w.heap.size, 0, none⟩) [r] := by
  intro i q hq
  cases i with
  | zero =>
    simp at hq
    subst hq
    exact ⟨_, 0, rfl, by simp, by simp, by simp, by simp, by simp⟩
  | succ i => simp at hq
/-- The cells of a record that is gone. -/
def RB0 (w : World) (g : Nat) : Prop := w.cell? ⟨g, 0, none⟩ = some (.int .i64 7) ∧ w.cell? ⟨g, 1, none⟩ = some (.string ⟨#[107]⟩) ∧ w.cell? ⟨g, 2, none⟩ = some (.string ⟨#[]⟩) ∧ w.cell? ⟨g, 3, none⟩ = some (.bool true)
theorem aw_bytes (W : World) : Calls Try.prog 35 #[.slice (some ⟨W.heap.size, 0, none⟩) 1 1, .int .i64 5] (W.alloc (.cells #[.int .i64 7, .string ⟨#[107]⟩, .string ⟨#[118]⟩, .bool false] 56)) fun e w' => e = .returned (.tuple #[.string ⟨#[2, 1, 107, 2, 118]⟩, .int .i64 0]) ∧ Below W.heap.size W w' := by
  have h := bytes_ok (some ⟨W.heap.size, 0, none⟩) 1 [⟨7, ⟨#[107]⟩, ⟨#[118]⟩, false⟩] 5 _ (rin_new W ⟨7, ⟨#[107]⟩, ⟨#[118]⟩, false⟩) (by intro r hr; simp at hr; subst hr; exact ⟨by decide, by decide⟩) (by simp)
  have hv : bytesV [⟨7, ⟨#[107]⟩, ⟨#[118]⟩, false⟩] 5 = .tuple #[.string ⟨#[2, 1, 107, 2, 118]⟩, .int .i64 0] := rfl
  refine h.mono ?_
  rintro e w' ⟨rfl, hb⟩
  exact ⟨by rw [hv], ((Below.refl _ W).alloc (Nat.le_refl _) _).trans (hb.mono (by simp))⟩
theorem aw_of (W : World) : Calls Try.prog 46 #[.string ⟨#[2, 1, 107, 0]⟩, .int .i64 5, .int .i64 1] W fun e w' => ∃ g cap, e = .returned (.tuple #[.slice (some ⟨g, 0, none⟩) 1 cap, .int .i64 0]) ∧ RB0 w' g ∧ Below W.heap.size W w' := by
  have h := of_ok [2, 1, 107, 0] 5 1 W (by omega) (by simp)
  refine h.mono ?_
  have e : ofO [2, 1, 107, 0] 5 1 = some [⟨7, ⟨#[107]⟩, ⟨#[]⟩, true⟩] := by
    unfold ofO
    rw [if_pos ⟨rfl, by omega⟩]
    exact ofL_recsL 5 [⟨7, ⟨#[107]⟩, ⟨#[]⟩, true⟩] rfl (by omega)
  rintro r w' (⟨L, v, h1, rfl, h3, h4⟩ | ⟨h1, _⟩)
  · rw [e] at h1
    cases h1
    obtain ⟨g, cap, rfl, hg, _, hin⟩ := h3.row
    obtain ⟨b, off, hb, _, c0, c1, c2, c3⟩ := hin 0 _ rfl
    cases hb
    exact ⟨g, cap, rfl, ⟨by simpa using c0, by simpa using c1, by simpa using c2, by simpa using c3⟩, h4⟩
  · rw [e] at h1; cases h1
end Go.Proofs.Ytalpbnkmppdgdaa
namespace Go.Proofs.Ytalpbnkmppdgdaa
open Go.RowKit
set_option linter.unusedVariables false

theorem isEmpty_eq (L : ByteArray) : L.toList.isEmpty = decide (L.size = 0) := by
  rw [ByteArray.toList_eq]
  have : L.size = L.data.toList.length := (Array.length_toList).symm
  rw [this]
  cases L.data.toList <;> simp
set_option maxHeartbeats 1000000 in
theorem may_ok (off : Int) (key val : ByteArray) (gone : Bool) (w : World) (hk : key.size ≤ 9223372036854775807) (hv : val.size ≤ 9223372036854775807) :
    Calls Try.prog 36 #[.agg #[.int .i64 off, .string key, .string val, .bool gone]] w fun e w' => e = .returned (.bool (mayB ⟨off, key, val, gone⟩)) ∧ Below w.heap.size w w' := by
  have HB : Hid (Below w.heap.size w (w.alloc (.cells #[.int .i64 off, .string key, .string val, .bool gone] 56))) := (Below.refl _ _).alloc (Nat.le_refl _) _
  have HM : Hid (mayB ⟨off, key, val, gone⟩ = true ↔ offB off = true ∧ key.size ≤ 64 ∧ val.size ≤ 4096 ∧ (gone = true → val.size = 0)) := mayB_iff ⟨off, key, val, gone⟩
  obtain ⟨m, hm⟩ : ∃ m, mayB ⟨off, key, val, gone⟩ = m := ⟨_, rfl⟩
  rw [hm] at HM ⊢
  clear hm
  have ho : offB off = true ↔ 0 ≤ off ∧ off < 1099511627776 := by unfold offB; simp
  have hie := isEmpty_eq val
  by_cases h : 0 ≤ off ∧ off < 1099511627776 ∧ key.size ≤ 64 ∧ val.size ≤ 4096 ∧ (gone = true → val.size = 0)
  · obtain rfl : m = true := HM.out.2 ⟨ho.2 ⟨h.1, h.2.1⟩, h.2.2⟩
    obtain ⟨h1, h2, h3, h4, h5⟩ := h
    cases gone
    · clear h5
      go_enter Try.func36, Try.ntmps36
      go_wp2
      go_ret
      exact ⟨rfl, HB.out⟩
    · have h6 : val.toList.isEmpty = true := by rw [hie]; exact decide_eq_true (h5 rfl)
      clear h5 hie
      go_enter Try.func36, Try.ntmps36
      go_wp2
      go_ret
      exact ⟨rfl, HB.out⟩
  · obtain rfl : m = false := by
      cases m
      · rfl
      · have h1 := HM.out.1 rfl
        exact absurd ⟨(ho.1 h1.1).1, (ho.1 h1.1).2, h1.2⟩ h
    clear ho
    by_cases h1 : 0 ≤ off
    · by_cases h2 : off < 1099511627776
      · by_cases h3 : key.size ≤ 64
        · by_cases h4 : val.size ≤ 4096
          · cases gone
            · exact absurd ⟨h1, h2, h3, h4, fun h => absurd h (by decide)⟩ h
            · have h6 : val.toList.isEmpty = false := by
                rw [hie]
                exact decide_eq_false (fun h0 => h ⟨h1, h2, h3, h4, fun _ => h0⟩)
              clear hie h
              go_enter Try.func36, Try.ntmps36
              go_wp2
              go_ret
              exact ⟨rfl, HB.out⟩
          · clear h hie
            go_enter Try.func36, Try.ntmps36
            go_wp2
            go_ret
            exact ⟨rfl, HB.out⟩
        · clear h hie
          go_enter Try.func36, Try.ntmps36
          go_wp2
          go_ret
          exact ⟨rfl, HB.out⟩
      · clear h hie
        go_enter Try.func36, Try.ntmps36
        go_wp2
        go_ret
        exact ⟨rfl, HB.out⟩
    · clear h hie
      go_enter Try.func36, Try.ntmps36
      go_wp2
      go_ret
      exact ⟨rfl, HB.out⟩
theorem rnumber_ok (n : Nat) (w : World) (hn : n ≤ 9223372036854775807) :
    Calls Try.prog 39 #[.int .i64 n] w fun e w' => e = .returned (.string (mk (vb n))) ∧ Below w.heap.size w w' := by
  have HP : Hid (∀ W, Calls Try.prog 37 #[.int .i64 n] W fun e w' => e = .returned (.tuple #[.string (mk (vb n)), .int .i64 0]) ∧ Below W.heap.size W w') := fun W => refPutVar n W hn
  generalize mk (vb n) = z at HP
  go_enter Try.func39, Try.ntmps39
  go_wp2_with fail
  refine (HP.out _).mono ?_
  rintro e w1 ⟨rfl, hb1⟩
  have HB1 : Hid (Below w.heap.size w w1) := hb1
  clear hb1
  go_wp2
  go_ret
  exact ⟨rfl, HB1.out⟩
end Go.Proofs.Ytalpbnkmppdgdaa
