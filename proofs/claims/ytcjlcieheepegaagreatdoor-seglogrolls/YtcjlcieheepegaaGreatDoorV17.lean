/- The document's Bytes. -/
/- The document's Bytes: the walk. -/
import Derived.Test.YtcjlcieheepegaaGreatDoorV16
import Derived.Lib.AppendStr
import Derived.Lib.UnsafeStr
import Derived.Deep.CutRange
namespace Go.Proofs.YtcjlcieheepegaaGreatDoor
open Go.RowKit
set_option linter.unusedVariables false
set_option maxRecDepth 20000

/-- A row of bytes of the call's own. -/
def OB (w : World) (B : Nat) (v : Value) (l : List UInt8) : Prop := w.ownsRow B 5 1 v l.length (Lib.byteCells l)
theorem OB.nil (w : World) (B : Nat) : OB w B (.slice none 0 0) [] := World.ownsRow_nil _ _ _ _
theorem OB.below {w w' : World} {B : Nat} {v : Value} {l : List UInt8} (h : OB w B v l) (hb : Below w.heap.size w w') : OB w' B v l := owns_below h hb
theorem OB.frame {w w' : World} {B : Nat} {v : Value} {l : List UInt8} (h : OB w B v l) (hg : w.grownBy w' v.ownBlock) (hB : B ≤ w.heap.size) : Below B w w' := below_grown h hg hB
theorem RB.grownB {w w' : World} {B rb : Nat} {v : Value} {l : List UInt8} {off : Int} {key val : ByteArray} {gone : Bool} (h : RB w rb off key val gone) (ho : OB w B v l) (hg : w.grownBy w' v.ownBlock) : RB w' rb off key val gone := by
  refine (hg.block rb (lt_of_block h) (fun e => ?_)).trans h
  rcases ho.2 with ⟨rfl, _⟩ | ⟨g, cap, cur, rfl, _, hh, _⟩
  · simp [Value.ownBlock] at e
  · have e' : rb = g := by simpa [Value.ownBlock] using e
    subst e'
    unfold RB at h
    rw [h] at hh
    cases hh
theorem wpList_append_txt {ops : Array Oper} {rest : List Oper} {o : Oper} {a : Act} {w : World} {Q : Exit → Act → World → Prop} (hgd : o.guard = none) (s x : Operand)
    (ho : o.op = .call { callee := .builtin .append, args := #[s, x], argTypes := #[47, 9] })
    (B : Nat) (v : Value) (l : List UInt8) (hs : a.eval s = v) (hown : OB w B v l) (t : ByteArray) (hx : a.eval x = .string t) (hlen : l.length + t.size ≤ 140737488355328) (hB : B ≤ w.heap.size)
    (h : ∀ v' w', OB w' B v' (l ++ t.data.toList) → w.grownBy w' v.ownBlock → wpList Tryz.prog ops Q rest (a.put o.dst v') w') : wpList Tryz.prog ops Q (o :: rest) a w := by
  obtain ⟨i0, hi, hz0, hz1, hz2⟩ := info_split Tryz.infoU8
  refine Lib.wpList_append_own_string w hgd s x 47 9 ho B 5 i0 Tryz.underlying47 Tryz.underlying9 hi hz0 hz1 hz2 v l.length (Lib.byteCells l) hs hown t hx (by unfold maxLen; omega) hlen hB ?_
  intro v' w' h1 h2 _
  refine h v' w' ?_ h2
  show w'.ownsRow _ _ _ _ _ _
  rw [Lib.byteCells_append, ← Lib.strCells_eq, List.length_append, data_len]
  exact h1
theorem wpList_append_nought {ops : Array Oper} {rest : List Oper} {o : Oper} {a : Act} {w : World} {Q : Exit → Act → World → Prop} (hgd : o.guard = none) (s x : Operand)
    (ho : o.op = .call { callee := .builtin .append, args := #[s, x], argTypes := #[47, 47] })
    (B : Nat) (v : Value) (l : List UInt8) (hs : a.eval s = v) (hown : OB w B v l) (g : Nat) (hx : a.eval x = .slice (some ⟨g, 0, none⟩) 1 1) (hc : w.cell? ⟨g, 0, none⟩ = some (.int .u8 0)) (hlen : l.length + 1 ≤ 140737488355328) (hB : B ≤ w.heap.size)
    (h : ∀ v' w', OB w' B v' (l ++ [0]) → w.grownBy w' v.ownBlock → wpList Tryz.prog ops Q rest (a.put o.dst v') w') : wpList Tryz.prog ops Q (o :: rest) a w := by
  obtain ⟨i0, hi, hz0, hz1, hz2⟩ := info_split Tryz.infoU8
  refine wpList_append_own w hgd s x 47 ho B 5 i0 (.int .u8 0) 1 1 Tryz.underlying47 hi hz0 hz1 hz2 rfl (by decide) v l.length (Lib.byteCells l) hs hown ⟨g, 0, none⟩ 1 1 [.int .u8 0] hx rfl ?_ ?_ (by unfold maxLen; omega) (by omega) hB ?_
  · intro j u hj
    cases j with
    | zero => simp at hj; subst hj; rw [add_zero_addr]; exact hc
    | succ j => simp at hj
  · intro u hu; simp at hu; subst hu; rfl
  · intro v' w' h1 h2 _
    refine h v' w' ?_ h2
    show w'.ownsRow _ _ _ _ _ _
    rw [Lib.byteCells_append, List.length_append]
    exact h1
theorem conv_mk (w : World) (B : Nat) (v : Value) (l : List UInt8) (h : OB w B v l) : (convert 47 9 v).run Tryz.prog w = .ok (.string (mk l)) w := by
  have hc : u8cells (l.map UInt8.toNat) = Lib.byteCells l := by simp [u8cells, Lib.byteCells]
  have := conv_row (P := Tryz.prog) w 47 9 5 B v (l.map UInt8.toNat) Tryz.underlying47 Tryz.underlying5 Tryz.underlying9 (by rw [hc, List.length_map]; exact h) (fun x hx => by
    simp only [List.mem_map] at hx
    obtain ⟨b, _, rfl⟩ := hx
    exact UInt8.toNat_lt b)
  rw [this]
  have e : toBA (l.map UInt8.toNat) = mk l := by
    unfold toBA mk
    rw [List.map_map]
    congr 1
    have : (UInt8.ofNat ∘ UInt8.toNat) = id := by funext x; simp
    rw [this, List.map_id]
  rw [e]
end Go.Proofs.YtcjlcieheepegaaGreatDoor
namespace Go.Proofs.YtcjlcieheepegaaGreatDoor
open Go.RowKit
set_option linter.unusedVariables false
set_option maxRecDepth 20000

set_option maxHeartbeats 4000000 in
theorem rbytes_ok (a : Option Addr) (cap : Nat) (L : List Rec) (base : Int) (w : World) (hin : RIn w a L) (hsz : Sized L) (hlen : L.length ≤ 1048576) :
    Calls Tryz.prog 27 #[.slice a L.length cap, .int .i64 base] w fun e w' => e = .returned (bytesV L base) ∧ Below w.heap.size w w' := by
  have HR : Hid (∀ W, RIn W a L → Calls Tryz.prog 45 #[.slice a L.length cap, .int .i64 base] W fun e w' => e = .returned (.bool (offB base && comes L base)) ∧ Below W.heap.size W w') := fun W h => rise_ok a cap L base W h hsz (by omega)
  have HIN : Hid (RIn w a L) := hin
  by_cases hg : (offB base && comes L base) = true
  · have HV : Hid (bytesV L base = .tuple #[.string (mk (recsL base L)), .int .i64 0]) := by unfold bytesV; rw [hg]; rfl
    rw [hg] at HR
    rw [Bool.and_eq_true] at hg
    obtain ⟨hg1, hg2⟩ := hg
    obtain ⟨hb0, hb1'⟩ : 0 ≤ base ∧ base < 1099511627776 := by unfold offB at hg1; simpa using hg1
    have HG2 : Hid (comes L base = true) := hg2
    obtain ⟨bv, hbv⟩ : ∃ bv, bytesV L base = bv := ⟨_, rfl⟩
    rw [hbv] at HV ⊢
    clear hbv
    obtain ⟨len, hl⟩ : ∃ len, L.length = len := ⟨_, rfl⟩
    rw [hl] at HR hlen ⊢
    have HL : Hid (L.length = len) := hl
    clear hl hin hsz hg2
    have hconv := conv_mk
    go_enter Tryz.func27, Tryz.ntmps27
    go_wp2_with fail
    refine (HR.out _ HIN.out).mono ?_
    rintro e w1 ⟨rfl, hb1⟩
    have HB1 : Hid (Below w.heap.size w w1) := hb1
    clear hb1
    go_wp2
    go_loopw [6, 7] (fun v i wr => ∃ (V : Value) (M : List Rec), V = v ∧ i = .int .i64 (M.length : Nat) ∧ (∃ T, L = M ++ T) ∧ OB wr w.heap.size V (recsL base M) ∧ Below w.heap.size w wr) (fun _ i _ => len - (intOf i).toNat)
    case atStart => exact ⟨_, [], rfl, rfl, ⟨L, rfl⟩, OB.nil _ _, HB1.out⟩
    case round =>
      obtain ⟨V, M, rfl, rfl, ⟨T, hT⟩, hown, hbel⟩ := hrel
      have HOW : Hid (OB wr w.heap.size V (recsL base M)) := hown
      have HBE : Hid (Below w.heap.size w wr) := hbel
      have hsw := hbel.size
      have hin' : RIn wr a L := HIN.out.below hbel (Nat.le_refl _)
      have hall := comes_mem L base HG2.out
      have hMl : (recsL base M).length ≤ 4190 * M.length := recsL_len base M (fun r hr => hall r (by rw [hT]; simp [hr]))
      cases T with
      | nil =>
        have hM : L = M := by rw [hT, List.append_nil]
        have hML : M.length = len := by have := HL.out; rw [hM] at this; exact this
        have hcv := conv_mk wr w.heap.size V (recsL base M) hown
        rw [← hM] at hcv
        clear hown hbel hin' hT hM hMl hall hconv
        go_wp2
        go_ret2
        exact ⟨by rw [HV.out]; rfl, HBE.out⟩
      | cons r T =>
        have hr0 : L[M.length]? = some r := by rw [hT]; simp
        have hlt : M.length < len := by have := HL.out; rw [hT] at this; simp at this; omega
        have hrm : mayB r = true := hall r (by rw [hT]; simp)
        obtain ⟨sb, so, ha, hsb, c0, c1, c2, c3⟩ := hin' _ _ hr0
        have HT : Hid (L = M ++ r :: T) := hT
        have hlow : base ≤ r.off := by
          have h1 := HG2.out
          rw [hT, comes_append, Bool.and_eq_true] at h1
          have h2 := h1.2
          simp only [comes, Bool.and_eq_true, decide_eq_true_eq] at h2
          have := lowB_ge M base h1.1
          omega
        obtain ⟨hro, hrk, hrv, _⟩ := (mayB_iff r).1 hrm
        have hro2 : r.off < 1099511627776 := by unfold offB at hro; simp at hro; exact hro.2
        have hrl : Hid (recL base r = vb (r.off - base).toNat ++ vb r.key.size ++ r.key.data.toList ++ (if r.gone then vb 0 else vb (r.val.size + 1) ++ r.val.data.toList)) := rfl
        clear hown hbel hin' hT hr0 hall hrm hro hconv
        obtain ⟨off, key, val, gone⟩ := r
        subst ha
        simp only at c0 c1 c2 c3 hrk hrv hlow hro2
        obtain ⟨n, hn⟩ : ∃ n : Nat, off - base = n := Int.eq_ofNat_of_zero_le (by omega)
        have HRL : Hid (recL base ⟨off, key, val, gone⟩ = vb n ++ vb key.size ++ key.data.toList ++ (if gone then vb 0 else vb (val.size + 1) ++ val.data.toList)) := by
          have := hrl.out
          simp only at this
          rw [hn] at this
          exact this
        clear hrl
        have v1 := vb_length n
        have v2 := vb_length key.size
        have v4 := vb_length (val.size + 1)
        have d1 := data_len key
        obtain ⟨Q0, hQ0⟩ : ∃ Q0, recsL base M = Q0 := ⟨_, rfl⟩
        have HQ0 : Hid (recsL base M = Q0) := hQ0
        rw [hQ0] at hMl HOW
        clear hQ0
        have HLS : Hid (Q0.length ≤ 4190 * M.length ∧ M.length < 1048576 ∧ (vb n).length ≤ 10 ∧ (vb key.size).length ≤ 10 ∧ (vb (val.size + 1)).length ≤ 10 ∧ key.data.toList.length = key.size ∧ key.size ≤ 64 ∧ val.size ≤ 4096) := ⟨hMl, by omega, v1, v2, v4, d1, hrk, hrv⟩
        have hn1 : n ≤ 9223372036854775807 := by omega
        clear hMl v1 v2 v4 d1
        have hBa : Below wr.heap.size wr (wr.alloc (.cells #[.int .i64 off, .string key, .string val, .bool gone] 49)) := (Below.refl _ _).alloc (Nat.le_refl _) _
        have HRB : Hid (RB (wr.alloc (.cells #[.int .i64 off, .string key, .string val, .bool gone] 49)) wr.heap.size off key val gone) := heap_alloc_new _ _
        have HA : Hid (Below wr.heap.size wr (wr.alloc (.cells #[.int .i64 off, .string key, .string val, .bool gone] 49))) := hBa
        clear hBa
        obtain ⟨rb, hrb⟩ : ∃ rb, wr.heap.size = rb := ⟨_, rfl⟩
        rw [hrb] at HRB
        generalize hWA : (wr.alloc (.cells #[.int .i64 off, .string key, .string val, .bool gone] 49)) = wA at HRB HA
        go_upto_region 8 with fail
        clear hWA hrb
        have HFA : Hid (Below w.heap.size w wA) := HBE.out.trans (HA.out.mono hsw)
        have HOA : Hid (OB wA w.heap.size V Q0) := HOW.out.below HA.out
        obtain ⟨d0, d1, d2, d3⟩ := HRB.out.cells
        clear c0 c1 c2 c3
        go_wp2_with fail
        refine (rnumber_ok n _ hn1).mono ?_
        rintro e w2 ⟨rfl, hb2⟩
        have HF2 : Hid (Below w.heap.size w w2) := HFA.out.trans (hb2.mono HFA.out.size)
        have HO2 : Hid (OB w2 w.heap.size V Q0) := HOA.out.below hb2
        have HR2 : Hid (RB w2 rb off key val gone) := (hb2.block rb (lt_of_block HRB.out)).trans HRB.out
        have hs2 : w.heap.size ≤ w2.heap.size := HF2.out.size
        clear hb2
        obtain ⟨z1, hz1⟩ : ∃ z, mk (vb n) = z := ⟨_, rfl⟩
        have HZ1 : Hid (z1.data.toList = vb n ∧ z1.size ≤ 10) := by rw [← hz1]; exact ⟨mk_toList _, by rw [mk_size]; exact vb_length n⟩
        rw [hz1]
        clear hz1 d0 d1 d2 d3
        go_wp2_with (first
          | (at_builtin; refine wpList_append_txt rfl _ _ rfl w.heap.size V Q0 rfl HO2.out z1 rfl (by have := HLS.out; have := HZ1.out; omega) hs2 ?_; intro v3 w3 ho3 hg3; have HF3 : Hid (Below w.heap.size w w3) := HF2.out.trans (OB.frame HO2.out hg3 hs2); have HR3 : Hid (RB w3 rb off key val gone) := HR2.out.grownB HO2.out hg3; have HO3 : Hid (OB w3 w.heap.size v3 (Q0 ++ z1.data.toList)) := ho3; have hs3 : w.heap.size ≤ w3.heap.size := HF3.out.size; obtain ⟨d0, d1, d2, d3⟩ := HR3.out.cells; clear ho3 hg3)
          | fail)
        refine (rnumber_ok key.size _ (by omega)).mono ?_
        rintro e w4 ⟨rfl, hb4⟩
        have HF4 : Hid (Below w.heap.size w w4) := HF3.out.trans (hb4.mono HF3.out.size)
        have HO4 : Hid (OB w4 w.heap.size v3 (Q0 ++ z1.data.toList)) := HO3.out.below hb4
        have HR4 : Hid (RB w4 rb off key val gone) := (hb4.block rb (lt_of_block HR3.out)).trans HR3.out
        have hs4 : w.heap.size ≤ w4.heap.size := HF4.out.size
        clear hb4
        obtain ⟨z2, hz2⟩ : ∃ z, mk (vb key.size) = z := ⟨_, rfl⟩
        have HZ2 : Hid (z2.data.toList = vb key.size ∧ z2.size ≤ 10) := by rw [← hz2]; exact ⟨mk_toList _, by rw [mk_size]; exact vb_length _⟩
        rw [hz2]
        clear hz2 d0 d1 d2 d3
        cases gone
        · go_wp2_with (first
            | (at_builtin; refine wpList_append_txt rfl _ _ rfl w.heap.size v3 (Q0 ++ z1.data.toList) rfl HO4.out z2 rfl (by have h1 := HLS.out; have h2 := HZ1.out; have h3 := HZ2.out; have h4 := data_len z1; simp only [List.length_append]; omega) hs4 ?_; intro v5 w5 ho5 hg5; have HF5 : Hid (Below w.heap.size w w5) := HF4.out.trans (OB.frame HO4.out hg5 hs4); have HR5 : Hid (RB w5 rb off key val false) := HR4.out.grownB HO4.out hg5; have HO5 : Hid (OB w5 w.heap.size v5 ((Q0 ++ z1.data.toList) ++ z2.data.toList)) := ho5; have hs5 : w.heap.size ≤ w5.heap.size := HF5.out.size; obtain ⟨d0, d1, d2, d3⟩ := HR5.out.cells; clear ho5 hg5)
            | (at_builtin; refine wpList_append_txt rfl _ _ rfl w.heap.size v5 ((Q0 ++ z1.data.toList) ++ z2.data.toList) rfl HO5.out key rfl (by have h1 := HLS.out; have h2 := HZ1.out; have h3 := HZ2.out; have h4 := data_len z1; have h5 := data_len z2; simp only [List.length_append]; omega) hs5 ?_; intro v6 w6 ho6 hg6; have HF6 : Hid (Below w.heap.size w w6) := HF5.out.trans (OB.frame HO5.out hg6 hs5); have HR6 : Hid (RB w6 rb off key val false) := HR5.out.grownB HO5.out hg6; have HO6 : Hid (OB w6 w.heap.size v6 (((Q0 ++ z1.data.toList) ++ z2.data.toList) ++ key.data.toList)) := ho6; have hs6 : w.heap.size ≤ w6.heap.size := HF6.out.size; clear d0 d1 d2 d3; obtain ⟨d0, d1, d2, d3⟩ := HR6.out.cells; clear ho6 hg6)
            | fail)
          refine (rnumber_ok (val.size + 1) _ (by omega)).mono ?_
          rintro e w7 ⟨rfl, hb7⟩
          have HF7 : Hid (Below w.heap.size w w7) := HF6.out.trans (hb7.mono HF6.out.size)
          have HO7 : Hid (OB w7 w.heap.size v6 (((Q0 ++ z1.data.toList) ++ z2.data.toList) ++ key.data.toList)) := HO6.out.below hb7
          have HR7 : Hid (RB w7 rb off key val false) := (hb7.block rb (lt_of_block HR6.out)).trans HR6.out
          have hs7 : w.heap.size ≤ w7.heap.size := HF7.out.size
          clear hb7
          obtain ⟨z3, hz3⟩ : ∃ z, mk (vb (val.size + 1)) = z := ⟨_, rfl⟩
          have HZ3 : Hid (z3.data.toList = vb (val.size + 1) ∧ z3.size ≤ 10) := by rw [← hz3]; exact ⟨mk_toList _, by rw [mk_size]; exact vb_length _⟩
          rw [hz3]
          clear hz3 d0 d1 d2 d3
          go_wp2_with (first
            | (at_builtin; refine wpList_append_txt rfl _ _ rfl w.heap.size v6 (((Q0 ++ z1.data.toList) ++ z2.data.toList) ++ key.data.toList) rfl HO7.out z3 rfl (by have h1 := HLS.out; have h2 := HZ1.out; have h3 := HZ2.out; have h33 := HZ3.out; have h4 := data_len z1; have h5 := data_len z2; simp only [List.length_append]; omega) hs7 ?_; intro v8 w8 ho8 hg8; have HF8 : Hid (Below w.heap.size w w8) := HF7.out.trans (OB.frame HO7.out hg8 hs7); have HR8 : Hid (RB w8 rb off key val false) := HR7.out.grownB HO7.out hg8; have HO8 : Hid (OB w8 w.heap.size v8 ((((Q0 ++ z1.data.toList) ++ z2.data.toList) ++ key.data.toList) ++ z3.data.toList)) := ho8; have hs8 : w.heap.size ≤ w8.heap.size := HF8.out.size; obtain ⟨d0, d1, d2, d3⟩ := HR8.out.cells; clear ho8 hg8)
            | (at_builtin; refine wpList_append_txt rfl _ _ rfl w.heap.size v8 ((((Q0 ++ z1.data.toList) ++ z2.data.toList) ++ key.data.toList) ++ z3.data.toList) rfl HO8.out val rfl (by have h1 := HLS.out; have h2 := HZ1.out; have h3 := HZ2.out; have h33 := HZ3.out; have h4 := data_len z1; have h5 := data_len z2; have h6 := data_len z3; simp only [List.length_append]; omega) hs8 ?_; intro v9 w9 ho9 hg9; have HF9 : Hid (Below w.heap.size w w9) := HF8.out.trans (OB.frame HO8.out hg9 hs8); have HO9 : Hid (OB w9 w.heap.size v9 (((((Q0 ++ z1.data.toList) ++ z2.data.toList) ++ key.data.toList) ++ z3.data.toList) ++ val.data.toList)) := ho9; clear ho9 hg9 d0 d1 d2 d3)
            | fail)
          go_roundw
          case rel =>
            refine ⟨_, M ++ [⟨off, key, val, false⟩], rfl, by simp, ⟨T, by rw [HT.out]; simp⟩, ?_, HF9.out⟩
            have := HO9.out
            rw [HZ1.out.1, HZ2.out.1, HZ3.out.1] at this
            rw [recsL_snoc, HQ0.out, HRL.out]
            simpa [List.append_assoc] using this
          case measure => simp [intOf]; omega
        · go_wp2_with (first
            | (at_builtin; refine wpList_append_txt rfl _ _ rfl w.heap.size v3 (Q0 ++ z1.data.toList) rfl HO4.out z2 rfl (by have h1 := HLS.out; have h2 := HZ1.out; have h3 := HZ2.out; have h4 := data_len z1; simp only [List.length_append]; omega) hs4 ?_; intro v5 w5 ho5 hg5; have HF5 : Hid (Below w.heap.size w w5) := HF4.out.trans (OB.frame HO4.out hg5 hs4); have HR5 : Hid (RB w5 rb off key val true) := HR4.out.grownB HO4.out hg5; have HO5 : Hid (OB w5 w.heap.size v5 ((Q0 ++ z1.data.toList) ++ z2.data.toList)) := ho5; have hs5 : w.heap.size ≤ w5.heap.size := HF5.out.size; obtain ⟨d0, d1, d2, d3⟩ := HR5.out.cells; clear ho5 hg5)
            | (at_builtin; refine wpList_append_txt rfl _ _ rfl w.heap.size v5 ((Q0 ++ z1.data.toList) ++ z2.data.toList) rfl HO5.out key rfl (by have h1 := HLS.out; have h2 := HZ1.out; have h3 := HZ2.out; have h4 := data_len z1; have h5 := data_len z2; simp only [List.length_append]; omega) hs5 ?_; intro v6 w6 ho6 hg6; have HF6 : Hid (Below w.heap.size w w6) := HF5.out.trans (OB.frame HO5.out hg6 hs5); have HR6 : Hid (RB w6 rb off key val true) := HR5.out.grownB HO5.out hg6; have HO6 : Hid (OB w6 w.heap.size v6 (((Q0 ++ z1.data.toList) ++ z2.data.toList) ++ key.data.toList)) := ho6; have hs6 : w.heap.size ≤ w6.heap.size := HF6.out.size; clear d0 d1 d2 d3; obtain ⟨d0, d1, d2, d3⟩ := HR6.out.cells; have HOW7 : Hid (∀ o, OB (w6.alloc o) w.heap.size v6 (((Q0 ++ z1.data.toList) ++ z2.data.toList) ++ key.data.toList) ∧ w.heap.size ≤ (w6.alloc o).heap.size) := (fun o => ⟨HO6.out.below ((Below.refl _ _).alloc (Nat.le_refl _) _), by simp; omega⟩); clear ho6 hg6)
            | (at_builtin; refine wpList_append_nought rfl _ _ rfl w.heap.size v6 (((Q0 ++ z1.data.toList) ++ z2.data.toList) ++ key.data.toList) rfl (HOW7.out _).1 _ rfl (by simp) (by have h1 := HLS.out; have h2 := HZ1.out; have h3 := HZ2.out; have h4 := data_len z1; have h5 := data_len z2; simp only [List.length_append]; omega) (HOW7.out _).2 ?_; intro v8 w8 ho8 hg8; have HG8 := And.intro ho8 hg8; clear ho8 hg8)
            | fail)
          have HE : Hid (OB w8 w.heap.size v8 ((((Q0 ++ z1.data.toList) ++ z2.data.toList) ++ key.data.toList) ++ [0]) ∧ Below w.heap.size w w8) := by
            obtain ⟨ho8, hg8⟩ := HG8
            refine ⟨ho8, (HF6.out.alloc hs6 _).trans (OB.frame (HOW7.out _).1 hg8 (HOW7.out _).2)⟩
          clear HG8 d0 d1 d2 d3
          go_roundw
          case rel =>
            refine ⟨_, M ++ [⟨off, key, val, true⟩], rfl, by simp, ⟨T, by rw [HT.out]; simp⟩, ?_, HE.out.2⟩
            have := HE.out.1
            rw [HZ1.out.1, HZ2.out.1] at this
            rw [recsL_snoc, HQ0.out, HRL.out]
            have hv0 : vb 0 = [0] := rfl
            simpa [List.append_assoc, hv0] using this
          case measure => simp [intOf]; omega
  · have hg' : (offB base && comes L base) = false := by simpa using hg
    have HV : Hid (bytesV L base = .tuple #[.string ⟨#[]⟩, .int .i64 90]) := by unfold bytesV; rw [hg']; rfl
    rw [hg'] at HR
    obtain ⟨bv, hbv⟩ : ∃ bv, bytesV L base = bv := ⟨_, rfl⟩
    rw [hbv] at HV ⊢
    clear hg hg' hin hbv
    go_enter Tryz.func27, Tryz.ntmps27
    go_wp2_with fail
    refine (HR.out _ HIN.out).mono ?_
    rintro e w1 ⟨rfl, hb1⟩
    have HB1 : Hid (Below w.heap.size w w1) := hb1
    clear hb1
    go_wp2
    go_ret2
    exact ⟨by rw [HV.out]; rfl, HB1.out⟩
end Go.Proofs.YtcjlcieheepegaaGreatDoor
