/- Layer 15: records that may be asked for: fit; Ask of a table without batches; the document's Large. -/
import Derived.Test.YtpjjenhimnkdcaaV10
import Derived.Test.YtpjjenhimnkdcaaEAx
import Derived.Laws.OwnMore
namespace Go.Proofs.Ytpjjenhimnkdcaa
open Go.RowKit Go.Maps
set_option linter.unusedVariables false
set_option maxRecDepth 20000

def fitB (L : List Rec) : Bool := (decide ((1 : Int) ≤ (L.length : Nat)) && decide (((L.length : Nat) : Int) ≤ 256)) && (comes L 0 && decide ((recsL 0 L).length ≤ 65536))
def Off (L : List Rec) : Prop := ∀ (i : Nat) (r : Rec), L[i]? = some r → r.off = (i : Int)
/-- What fit has so far: a row of records of its own. -/
structure FR (w wr : World) (G n : Nat) (M : List Rec) : Prop where
  bel : Below w.heap.size w wr
  own : ∃ Z, Z.length = (n - M.length) * 4 ∧ wr.ownsRow w.heap.size 47 4 (.slice (some ⟨G, 0, none⟩) n n) n (rcs M ++ Z)
theorem set4 {A Z : List Value} {n : Nat} (hA : A.length = n) (z0 z1 z2 z3 a b c d : Value) : ((((A ++ z0 :: z1 :: z2 :: z3 :: Z).set n a).set (n + 1) b).set (n + 2) c).set (n + 3) d = A ++ [a, b, c, d] ++ Z := by
  subst hA
  induction A with
  | nil => simp
  | cons x A ih => simp
theorem FR.step {w wr : World} {G n : Nat} {M : List Rec} {r : Rec} (h : FR w wr G n M) (o : Obj) (hlt : M.length < n) :
    FR w (((((wr.alloc o).setCell ⟨G, M.length * 4, none⟩ (.int .i64 r.off)).setCell ⟨G, M.length * 4 + 1, none⟩ (.string r.key)).setCell ⟨G, M.length * 4 + 2, none⟩ (.string r.val)).setCell ⟨G, M.length * 4 + 3, none⟩ (.bool r.gone)) G n (M ++ [r]) := by
  obtain ⟨Z, hZ, ho⟩ := h.own
  have hk : 4 ≤ Z.length := by rw [hZ]; have : 1 * 4 ≤ (n - M.length) * 4 := Nat.mul_le_mul_right 4 (by omega); omega
  match Z, hk, hZ, ho with
  | z0 :: z1 :: z2 :: z3 :: Z, _, hZ, ho =>
    have o1 := owns_below ho (below_a wr o)
    obtain ⟨o2, g2⟩ := o1.stored (M.length * 4) (.int .i64 r.off)
    obtain ⟨o3, g3⟩ := o2.stored (M.length * 4 + 1) (.string r.key)
    obtain ⟨o4, g4⟩ := o3.stored (M.length * 4 + 2) (.string r.val)
    obtain ⟨o5, g5⟩ := o4.stored (M.length * 4 + 3) (.bool r.gone)
    have hG : w.heap.size ≤ G := (o1.lt G rfl).1
    refine ⟨?_, Z, ?_, ?_⟩
    · simp only [bl_set' hG]
      exact bl_alloc (Nat.le_refl _) h.bel
    · simp only [List.length_cons] at hZ
      rw [List.length_append, List.length_singleton]
      omega
    · rw [set4 (rcs_length M)] at o5
      have e : rcs (M ++ [r]) = rcs M ++ [.int .i64 r.off, .string r.key, .string r.val, .bool r.gone] := by rw [rcs_append]; rfl
      rw [e]
      exact o5
theorem FR.cells {w wr : World} {G n : Nat} {M : List Rec} (h : FR w wr G n M) (hlt : M.length < n) (j : Nat) (hj : j < 4) : ∃ u, wr.cell? ⟨G, M.length * 4 + j, none⟩ = some u := by
  obtain ⟨Z, hZ, ho⟩ := h.own
  have hl : M.length * 4 + j < n * 4 := by omega
  have h1 := ho.cellAt (M.length * 4 + j) hl
  have h2 : M.length * 4 + j < (rcs M ++ Z).length := by rw [ho.1]; exact hl
  exact ⟨_, h1.trans (List.getElem?_eq_getElem h2)⟩
theorem FR.frozen {w wr : World} {G n : Nat} {M : List Rec} (h : FR w wr G n M) (j : Nat) : wr.frozen? ⟨G, j, none⟩ = false := by
  obtain ⟨Z, hZ, ho⟩ := h.own
  exact ho.frozenAt j
theorem FR.done {w wr : World} {G n : Nat} {L : List Rec} (h : FR w wr G n L) (hn : L.length = n) : RIn wr (some ⟨G, 0, none⟩) L := by
  obtain ⟨Z, hZ, ho⟩ := h.own
  have : Z = [] := List.eq_nil_of_length_eq_zero (by rw [hZ, hn, Nat.sub_self, Nat.zero_mul])
  subst this
  rw [List.append_nil] at ho
  exact RIn.owned ho (ho.lt G rfl).2
set_option maxHeartbeats 4000000 in
theorem fit_ok (a : Option Addr) (c : Nat) (L : List Rec) (w : World) (hin : RIn w a L) (hsz : Sized L) (hoff : Off L) (hlen : L.length ≤ 1000) :
    Calls Try.prog 28 #[.slice a L.length c] w fun e w' => e = .returned (.bool (fitB L)) ∧ Below w.heap.size w w' := by
  have HW : Hid (∀ W, Calls Try.prog 19 #[.int .i64 (L.length : Nat), .int .i64 1, .int .i64 256] W fun e w' => e = .returned (.bool (decide ((1 : Int) ≤ (L.length : Nat)) && decide (((L.length : Nat) : Int) ≤ 256))) ∧ w' = W) := fun W => within_ok _ _ _ W
  have HFB : Hid (fitB L = ((decide ((1 : Int) ≤ (L.length : Nat)) && decide (((L.length : Nat) : Int) ≤ 256)) && (comes L 0 && decide ((recsL 0 L).length ≤ 65536)))) := rfl
  have HIN : Hid (RIn w a L) := hin
  have HOF : Hid (Off L) := hoff
  have HBY : Hid (∀ W g n, RIn W (some ⟨g, 0, none⟩) L → L.length = n → Calls Try.prog 34 #[.slice (some ⟨g, 0, none⟩) n n, .int .i64 0] W fun e w' => e = .returned (bytesV L 0) ∧ Below W.heap.size W w') := fun W g n h hn => by subst hn; exact bytes_ok (some ⟨g, 0, none⟩) L.length L 0 W h hsz (by omega)
  obtain ⟨n, hn⟩ : ∃ n, L.length = n := ⟨_, rfl⟩
  have HN : Hid (L.length = n) := hn
  rw [hn] at HW HFB hlen ⊢
  obtain ⟨rb, hrb⟩ : ∃ rb, fitB L = rb := ⟨_, rfl⟩
  rw [hrb] at HFB ⊢
  clear hin hsz hoff hn hrb
  obtain ⟨wb, hwb⟩ : ∃ wb, (decide ((1 : Int) ≤ (n : Nat)) && decide (((n : Nat) : Int) ≤ 256)) = wb := ⟨_, rfl⟩
  rw [hwb] at HW HFB
  clear hwb
  obtain ⟨i0, hq, h1, h2, h3⟩ := info_split recInfo
  obtain ⟨w1, hmk, hown, hgr⟩ := run_make_full (P := Try.prog) w w.heap.size 31 47 i0 (.agg #[.int .i64 0, .string ⟨#[]⟩, .string ⟨#[]⟩, .bool false]) 4 Try.underlying31 hq h1 h2 .i64 .i64 n (by rw [h3]; omega) (by unfold maxLen; omega) (Nat.le_refl _)
  have HST : Hid (FR w w1 w.heap.size n []) := ⟨(Below.refl _ _).grown hgr (Nat.le_refl _) (fun k hk => by cases hk), _, by rw [List.length_nil, Nat.sub_zero]; exact hown.1, hown⟩
  clear hq h1 h2 h3 hown hgr
  go_enter Try.func28, Try.ntmps28
  go_wp2_with fail
  refine (HW.out _).mono ?_
  rintro e w0 ⟨rfl, hw0⟩
  obtain rfl := hw0.symm
  clear HW hw0
  cases wb
  · go_wp2
    go_ret
    exact ⟨by rw [HFB.out]; rfl, Below.refl _ _⟩
  · obtain ⟨G, hG⟩ : ∃ G, w.heap.size = G := ⟨_, rfl⟩
    rw [hG] at hmk HST
    go_wp2
    clear hmk
    go_loopw [17] (fun i wr => ∃ (M T : List Rec), i = .int .i64 (M.length : Nat) ∧ L = M ++ T ∧ FR w wr G n M) (fun i _ => n - (intOf i).toNat)
    case atStart => exact ⟨[], L, rfl, rfl, HST.out⟩
    case round =>
      obtain ⟨M, T, rfl, hL, hfr⟩ := hrel
      have HFR : Hid (FR w wr G n M) := hfr
      cases T with
      | nil =>
        have hM : L = M := by rw [hL, List.append_nil]
        have hML : M.length = n := by rw [← HN.out, hM]
        have HRI : Hid (RIn wr (some ⟨G, 0, none⟩) L) := by rw [hM]; exact hfr.done hML
        clear hL hM hfr
        have HB := HBY.out wr G n HRI.out HN.out
        unfold bytesV at HB
        rw [show offB 0 = true from rfl, Bool.true_and] at HB
        cases hc : comes L 0 with
        | true =>
          rw [hc] at HB HFB
          simp only [if_true] at HB
          have HBH := hide HB
          obtain ⟨z, hz⟩ : ∃ z, mk (recsL 0 L) = z := ⟨_, rfl⟩
          have hzs : (recsL 0 L).length = z.size := by rw [← hz, mk_size]
          rw [hz] at HBH
          rw [hzs] at HFB
          clear HB hc hz hzs
          go_wp2_with fail
          refine HBH.out.mono ?_
          rintro e w2 ⟨rfl, hb2⟩
          have HB2 : Hid (Below w.heap.size w w2) := HFR.out.bel.trans (hb2.mono HFR.out.bel.size)
          clear hb2 HBH
          have hd : decide (((z.size : Nat) : Int) ≤ 65536) = decide (z.size ≤ 65536) := by
            by_cases hs : z.size ≤ 65536
            · rw [decide_eq_true hs, decide_eq_true (by omega)]
            · rw [decide_eq_false hs, decide_eq_false (by omega)]
          have HDD := hide hd
          clear hd
          go_wp2
          go_ret
          exact ⟨by rw [HFB.out, ← HDD.out]; rfl, by first | exact HB2.out | (rw [← hG]; exact HB2.out)⟩
        | false =>
          rw [hc] at HB HFB
          simp only [Bool.false_eq_true, if_false] at HB
          have HBH := hide HB
          have HV : Hid (rb = false) := by show rb = false; rw [HFB.out]; rfl
          clear HB hc
          go_wp2_with fail
          refine HBH.out.mono ?_
          rintro e w2 ⟨rfl, hb2⟩
          have HB2 : Hid (Below w.heap.size w w2) := HFR.out.bel.trans (hb2.mono HFR.out.bel.size)
          clear hb2 HBH
          go_wp2
          go_ret
          exact ⟨by rw [HV.out]; rfl, by first | exact HB2.out | (rw [← hG]; exact HB2.out)⟩
      | cons r T =>
        have hr0 : L[M.length]? = some r := by rw [hL]; simp
        have hlt : M.length < n := by have := HN.out; rw [hL] at this; simp at this; omega
        have ho := HOF.out _ _ hr0
        obtain ⟨sb, so, rfl, hsb, c0, c1, c2, c3⟩ := (HIN.out.below hfr.bel (Nat.le_refl _)) _ _ hr0
        obtain ⟨off, key, val, gone⟩ := r
        simp only at c0 c1 c2 c3 ho
        subst ho
        have HL : Hid (L = M ++ ⟨((M.length : Nat) : Int), key, val, gone⟩ :: T) := hL
        obtain ⟨u0, g0⟩ := hfr.cells hlt 0 (by omega)
        obtain ⟨u1, g1⟩ := hfr.cells hlt 1 (by omega)
        obtain ⟨u2, g2⟩ := hfr.cells hlt 2 (by omega)
        obtain ⟨u3, g3⟩ := hfr.cells hlt 3 (by omega)
        rw [Nat.add_zero] at g0
        have e0 := fun o => cellB (below_a wr o) g0
        have e1 := fun o => cellB (below_a wr o) g1
        have e2 := fun o => cellB (below_a wr o) g2
        have e3 := fun o => cellB (below_a wr o) g3
        have HNX : Hid (∀ o, FR w (((((wr.alloc o).setCell ⟨G, M.length * 4, none⟩ (.int .i64 (M.length : Nat))).setCell ⟨G, M.length * 4 + 1, none⟩ (.string key)).setCell ⟨G, M.length * 4 + 2, none⟩ (.string val)).setCell ⟨G, M.length * 4 + 3, none⟩ (.bool gone)) G n (M ++ [⟨((M.length : Nat) : Int), key, val, gone⟩])) := fun o => hfr.step (r := ⟨((M.length : Nat) : Int), key, val, gone⟩) o hlt
        have hGl : G < wr.heap.size := by obtain ⟨Z, _, ho⟩ := hfr.own; exact (ho.lt G rfl).2
        have hfz : ∀ o j, (wr.alloc o).frozen? ⟨G, j, none⟩ = false := fun o j => by
          rw [show (wr.alloc o).frozen? ⟨G, j, none⟩ = wr.frozen? ⟨G, j, none⟩ from World.frozen?_of_block ((below_a wr o).block G hGl)]
          exact hfr.frozen j
        have hlti : (M.length : Int) < (n : Int) := by omega
        have k4 := (heap_alloc_new wr (.cells #[.int .i64 (M.length : Nat), .string key, .string val, .bool gone] 47))
        have f0 := e0 (.cells #[.int .i64 (M.length : Nat), .string key, .string val, .bool gone] 47)
        have f1 := e1 (.cells #[.int .i64 (M.length : Nat), .string key, .string val, .bool gone] 47)
        have f2 := e2 (.cells #[.int .i64 (M.length : Nat), .string key, .string val, .bool gone] 47)
        have f3 := e3 (.cells #[.int .i64 (M.length : Nat), .string key, .string val, .bool gone] 47)
        have hz := hfz (.cells #[.int .i64 (M.length : Nat), .string key, .string val, .bool gone] 47)
        have HNY := hide (HNX.out (.cells #[.int .i64 (M.length : Nat), .string key, .string val, .bool gone] 47))
        clear hL hr0 hfr g0 g1 g2 g3 e0 e1 e2 e3 hfz HNX
        obtain ⟨U5, hU5⟩ : ∃ U5, wr.heap.size = U5 := ⟨_, rfl⟩
        rw [hU5] at k4
        go_upto_region 8 with fail
        try rw [hU5]
        generalize (wr.alloc (.cells #[.int .i64 (M.length : Nat), .string key, .string val, .bool gone] 47)) = w2 at k4 f0 f1 f2 f3 hz HNY
        clear c0 c1 c2 c3
        have y0 : w2.cell? ⟨U5, 0, none⟩ = some (.int .i64 (M.length : Nat)) := by simp [World.cell?, k4]
        have y1 : w2.cell? ⟨U5, 1, none⟩ = some (.string key) := by simp [World.cell?, k4]
        have y2 : w2.cell? ⟨U5, 2, none⟩ = some (.string val) := by simp [World.cell?, k4]
        have y3 : w2.cell? ⟨U5, 3, none⟩ = some (.bool gone) := by simp [World.cell?, k4]
        clear k4
        go_wp2
        go_roundw
        case rel => exact ⟨M ++ [⟨((M.length : Nat) : Int), key, val, gone⟩], T, by simp, by rw [HL.out]; simp, HNY.out⟩
        case measure => simp [intOf]; omega
end Go.Proofs.Ytpjjenhimnkdcaa
