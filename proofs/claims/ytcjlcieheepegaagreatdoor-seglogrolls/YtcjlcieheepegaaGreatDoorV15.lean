/- What was written is read as it was; what lacks bytes is not read. -/
/- Two records held against one another; what must come, whatever the arguments are. -/
/- The document's functions: May, Check, number, Rise, Same. -/
import Derived.Test.YtcjlcieheepegaaGreatDoorV14
import Derived.Laws.StructEq
namespace Go.Proofs.YtcjlcieheepegaaGreatDoor
open Go.RowKit
set_option linter.unusedVariables false
set_option maxRecDepth 20000

theorem drop_len {a b : List UInt8} : (a ++ b).drop a.length = b := by simp
theorem take_len {a b : List UInt8} : (a ++ b).take a.length = a := by simp
theorem wrap_small (x : Int) (h0 : 0 ≤ x) (h1 : x < 1099511627776) : IntKind.i64.wrap x = x := by
  rw [IntWalk.i64_left]
  exact IntWalk.wrap64_in x ⟨by omega, by omega⟩
/-- A record's bytes are read as the record. -/
theorem rdRec_recL (base : Int) (r : Rec) (R : List UInt8) (hm : mayB r = true) (h0 : 0 ≤ base) (h1 : base ≤ r.off) : rdRec base (recL base r ++ R) = some (r, R) := by
  obtain ⟨h2, h3, h4, h5⟩ := (mayB_iff r).1 hm
  obtain ⟨ho1, ho2⟩ : 0 ≤ r.off ∧ r.off < 1099511627776 := by unfold offB at h2; simpa using h2
  obtain ⟨off, key, val, gone⟩ := r
  simp only at h1 h3 h4 h5 ho1 ho2
  obtain ⟨d, hd⟩ : ∃ d : Nat, off - base = d := Int.eq_ofNat_of_zero_le (by omega)
  have hkl := data_len key
  have hvl := data_len val
  unfold rdRec recL
  simp only
  rw [show (off - base).toNat = d by omega]
  simp only [List.append_assoc]
  rw [varD_vb d _ (by omega)]
  simp only
  rw [drop_len, varD_vb key.size _ (by omega)]
  simp only
  rw [drop_len]
  have e1 : (key.data.toList ++ ((if gone = true then vb 0 else vb (val.size + 1) ++ val.data.toList) ++ R)).drop key.size = (if gone = true then vb 0 else vb (val.size + 1) ++ val.data.toList) ++ R := by rw [← hkl]; exact drop_len
  have e2 : (key.data.toList ++ ((if gone = true then vb 0 else vb (val.size + 1) ++ val.data.toList) ++ R)).take key.size = key.data.toList := by rw [← hkl]; exact take_len
  rw [if_pos (by rw [List.length_append]; omega), e1, e2, mk_data]
  have ew : IntKind.i64.wrap (base + (d : Nat)) = off := by rw [show base + (d : Nat) = off by omega]; exact wrap_small off ho1 ho2
  rw [ew]
  cases gone with
  | true =>
    simp only [if_true]
    rw [varD_vb 0 _ (by omega)]
    simp only
    rw [drop_len]
    have hv : val = ⟨#[]⟩ := by
      have h6 := h5 rfl
      rw [← mk_data val]
      have : val.data.toList = [] := List.eq_nil_of_length_eq_zero (by omega)
      rw [this]
      rfl
    rw [hv]
    rfl
  | false =>
    simp only [Bool.false_eq_true, if_false, List.append_assoc]
    rw [varD_vb (val.size + 1) _ (by omega)]
    simp only
    rw [if_neg (by omega), drop_len]
    have e3 : (val.data.toList ++ R).drop (val.size + 1 - 1) = R := by rw [Nat.add_sub_cancel, ← hvl]; exact drop_len
    have e4 : (val.data.toList ++ R).take (val.size + 1 - 1) = val.data.toList := by rw [Nat.add_sub_cancel, ← hvl]; exact take_len
    rw [e3, e4, if_pos (by rw [List.length_append]; omega), mk_data]
theorem comes_low {L : List Rec} {low low' : Int} (h : comes L low = true) (hl : low' ≤ low) : comes L low' = true := by
  cases L with
  | nil => rfl
  | cons r L =>
    simp only [comes, Bool.and_eq_true, decide_eq_true_eq] at h ⊢
    exact ⟨⟨h.1.1, by omega⟩, h.2⟩
theorem rdN_recsL (base : Int) (L : List Rec) (low : Int) (R : List UInt8) (hc : comes L low = true) (h0 : 0 ≤ base) (h1 : base ≤ low) : rdN base L.length (recsL base L ++ R) = some (L, R) := by
  induction L generalizing low with
  | nil => rfl
  | cons r L ih =>
    simp only [comes, Bool.and_eq_true, decide_eq_true_eq] at hc
    simp only [recsL, List.length_cons, rdN, List.append_assoc]
    rw [rdRec_recL base r _ hc.1.1 h0 (by omega)]
    simp only
    rw [ih (r.off + 1) hc.2 (by omega)]
/-- Of of Bytes. -/
theorem ofL_recsL (base : Int) (L : List Rec) (hc : comes L base = true) (h0 : 0 ≤ base) : ofL base L.length (recsL base L) = some L := by
  have h := rdN_recsL base L base [] hc h0 (Int.le_refl _)
  rw [List.append_nil] at h
  unfold ofL
  rw [h]
  simp only [hc]
  rfl
theorem ofL_behind (base : Int) (L : List Rec) (x : UInt8) (R : List UInt8) (hc : comes L base = true) (h0 : 0 ≤ base) : ofL base L.length (recsL base L ++ x :: R) = none := by
  have h := rdN_recsL base L base (x :: R) hc h0 (Int.le_refl _)
  unfold ofL
  rw [h]
  simp
theorem rdRec_nil (base : Int) : rdRec base [] = none := by
  unfold rdRec
  rw [varD_nil]
theorem ofL_one_more (base : Int) (L : List Rec) (hc : comes L base = true) (h0 : 0 ≤ base) : ofL base (L.length + 1) (recsL base L) = none := by
  have h := rdN_recsL base L base [] hc h0 (Int.le_refl _)
  rw [List.append_nil] at h
  exact ofL_more (k := 0) h (rdRec_nil base)
/-- What is read of a text's beginning is read of the text. -/
theorem rdRec_append {base : Int} {R R' : List UInt8} {r : Rec} (h : rdRec base R = some (r, R')) (m : List UInt8) : rdRec base (R ++ m) = some (r, R' ++ m) := by
  unfold rdRec at h ⊢
  cases h1 : varD (mk R) with
  | none => rw [h1] at h; cases h
  | some p =>
    obtain ⟨x1, n1⟩ := p
    have l1 := (varD_le h1).2.2.2
    rw [mk_size] at l1
    rw [varD_append h1]
    rw [h1] at h
    simp only at h ⊢
    rw [List.drop_append_of_le_length l1]
    cases h2 : varD (mk (R.drop n1)) with
    | none => rw [h2] at h; cases h
    | some p =>
      obtain ⟨x2, n2⟩ := p
      have l2 := (varD_le h2).2.2.2
      rw [mk_size] at l2
      rw [varD_append h2]
      rw [h2] at h
      simp only at h ⊢
      rw [List.drop_append_of_le_length l2]
      generalize (R.drop n1).drop n2 = Q at h ⊢
      by_cases h3 : x2 ≤ Q.length
      · rw [if_pos h3] at h
        rw [if_pos (by rw [List.length_append]; omega), List.drop_append_of_le_length h3, List.take_append_of_le_length h3]
        cases h4 : varD (mk (Q.drop x2)) with
        | none => rw [h4] at h; cases h
        | some p =>
          obtain ⟨x3, n3⟩ := p
          have l3 := (varD_le h4).2.2.2
          rw [mk_size] at l3
          rw [varD_append h4]
          rw [h4] at h
          simp only at h ⊢
          rw [List.drop_append_of_le_length l3]
          generalize (Q.drop x2).drop n3 = U at h ⊢
          by_cases h5 : x3 = 0
          · rw [if_pos h5] at h ⊢
            cases h
            rfl
          · rw [if_neg h5] at h ⊢
            by_cases h6 : x3 - 1 ≤ U.length
            · rw [if_pos h6] at h
              rw [if_pos (by rw [List.length_append]; omega), List.drop_append_of_le_length h6, List.take_append_of_le_length h6]
              cases h
              rfl
            · rw [if_neg h6] at h; cases h
      · rw [if_neg h3] at h; cases h
theorem rdN_append {base : Int} {n : Nat} {R R' : List UInt8} {L : List Rec} (h : rdN base n R = some (L, R')) (m : List UInt8) : rdN base n (R ++ m) = some (L, R' ++ m) := by
  induction n generalizing R L R' with
  | zero => simp only [rdN] at h ⊢; cases h; rfl
  | succ n ih =>
    simp only [rdN] at h ⊢
    cases hr : rdRec base R with
    | none => rw [hr] at h; cases h
    | some p =>
      obtain ⟨r, R1⟩ := p
      rw [rdRec_append hr]
      rw [hr] at h
      simp only at h ⊢
      cases hn : rdN base n R1 with
      | none => rw [hn] at h; cases h
      | some p =>
        obtain ⟨L1, R2⟩ := p
        rw [ih hn]
        rw [hn] at h
        cases h
        rfl
/-- Bytes of records that lack some are none. -/
theorem ofL_cut (base : Int) (L : List Rec) (k : Nat) (hc : comes L base = true) (h0 : 0 ≤ base) (hk : k < (recsL base L).length) : ofL base L.length ((recsL base L).take k) = none := by
  unfold ofL
  cases h : rdN base L.length ((recsL base L).take k) with
  | none => rfl
  | some p =>
    obtain ⟨M, R'⟩ := p
    have h1 := rdN_append h ((recsL base L).drop k)
    rw [List.take_append_drop] at h1
    have h2 := rdN_recsL base L base [] hc h0 (Int.le_refl _)
    rw [List.append_nil, h1] at h2
    have h3 : R' ++ (recsL base L).drop k = [] := by
      have := Option.some.inj h2
      exact congrArg Prod.snd this
    have h4 : ((recsL base L).drop k).length = 0 := by
      have := congrArg List.length h3
      simp only [List.length_append, List.length_nil] at this
      omega
    rw [List.length_drop] at h4
    omega
/-- Records that are all higher by as much. -/
def shift (k : Int) (r : Rec) : Rec := ⟨r.off + k, r.key, r.val, r.gone⟩
theorem recL_shift (base k : Int) (r : Rec) : recL (base + k) (shift k r) = recL base r := by
  unfold recL shift
  simp only
  rw [show r.off + k - (base + k) = r.off - base by omega]
theorem recsL_shift (base k : Int) (L : List Rec) : recsL (base + k) (L.map (shift k)) = recsL base L := by
  induction L with
  | nil => rfl
  | cons r L ih => simp only [List.map_cons, recsL, ih, recL_shift]
theorem comes_shift (low k : Int) (L : List Rec) (hk : 0 ≤ k) (hl : ∀ r ∈ L, r.off + k < 1099511627776) (h : comes L low = true) : comes (L.map (shift k)) (low + k) = true := by
  induction L generalizing low with
  | nil => rfl
  | cons r L ih =>
    simp only [comes, Bool.and_eq_true, decide_eq_true_eq] at h
    simp only [List.map_cons, comes, Bool.and_eq_true, decide_eq_true_eq]
    have hr := (mayB_iff r).1 h.1.1
    refine ⟨⟨(mayB_iff _).2 ⟨?_, hr.2⟩, ?_⟩, ?_⟩
    · have h1 := hr.1
      have h2 := hl r List.mem_cons_self
      unfold offB at h1 ⊢
      simp only [Bool.and_eq_true, decide_eq_true_eq] at h1 ⊢
      exact ⟨by show 0 ≤ r.off + k; omega, by show r.off + k < _; omega⟩
    · show low + k ≤ r.off + k; omega
    · have := ih (r.off + 1) (fun x hx => hl x (List.mem_cons_of_mem _ hx)) h.2
      rw [show r.off + 1 + k = (shift k r).off + 1 by show _ = r.off + k + 1; omega] at this
      exact this
end Go.Proofs.YtcjlcieheepegaaGreatDoor
namespace Go.Proofs.YtcjlcieheepegaaGreatDoor
open Go.RowKit
set_option linter.unusedVariables false
set_option maxRecDepth 20000

/-- Are two records the same? -/
def eqR (a : Int) (k v : ByteArray) (g : Bool) (a' : Int) (k' v' : ByteArray) (g' : Bool) : Bool := (a == a') && ((k.toList == k'.toList) && ((v.toList == v'.toList) && (g == g')))
theorem eql_rec (a a' : Int) (k v k' v' : ByteArray) (g g' : Bool) (w : World) :
    (Op.equalIn 10000 49 (.agg #[.int .i64 a, .string k, .string v, .bool g]) (.agg #[.int .i64 a', .string k', .string v', .bool g'])).run Tryz.prog w = .ok (eqR a k v g a' k' v' g') w := by
  rw [run_equalIn_struct w 9999 _ _ _ (by kernel_rfl) (by kernel_rfl)]
  simp only [Program.fieldsOf, Tryz.underlying49]
  simp [Op.eqFields, go_sem]
  unfold eqR
  by_cases h1 : a = a'
  · by_cases h2 : k.toList = k'.toList
    · by_cases h3 : v.toList = v'.toList
      · by_cases h4 : g = g'
        · simp [h1, h2, h3, h4]
        · simp [h1, h2, h3, h4]
      · simp [h1, h2, h3]
    · simp [h1, h2]
  · simp [h1]
theorem run_eqlR (a a' : Int) (k v k' v' : ByteArray) (g g' : Bool) (w : World) :
    (binOp .eql 49 (.agg #[.int .i64 a, .string k, .string v, .bool g]) (.agg #[.int .i64 a', .string k', .string v', .bool g'])).run Tryz.prog w = .ok (.bool (eqR a k v g a' k' v' g')) w := by
  rw [run_eql_struct, eql_rec]
  rfl
theorem run_neqR (a a' : Int) (k v k' v' : ByteArray) (g g' : Bool) (w : World) :
    (binOp .neq 49 (.agg #[.int .i64 a, .string k, .string v, .bool g]) (.agg #[.int .i64 a', .string k', .string v', .bool g'])).run Tryz.prog w = .ok (.bool (!eqR a k v g a' k' v' g')) w := by
  rw [run_neq_struct, eql_rec]
  rfl
theorem eqR_self (a : Int) (k v : ByteArray) (g : Bool) : eqR a k v g a k v g = true := by simp [eqR]
theorem toList_inj {a b : ByteArray} (h : a.toList = b.toList) : a = b := by
  rw [ByteArray.toList_eq, ByteArray.toList_eq] at h
  rw [← mk_data a, ← mk_data b, h]
theorem eqR_iff (p q : Rec) : eqR p.off p.key p.val p.gone q.off q.key q.val q.gone = true ↔ p = q := by
  constructor
  · intro h
    simp only [eqR, Bool.and_eq_true, beq_iff_eq] at h
    obtain ⟨h1, h2, h3, h4⟩ := h
    obtain ⟨a, b, c, d⟩ := p
    obtain ⟨a', b', c', d'⟩ := q
    simp only at h1 h2 h3 h4
    rw [h1, toList_inj h2, toList_inj h3, h4]
  · rintro rfl; exact eqR_self _ _ _ _
theorem Own.row {w : World} {B : Nat} {v : Value} {r : Rec} {L : List Rec} (h : Own w B v (r :: L)) : ∃ g cap, v = .slice (some ⟨g, 0, none⟩) (L.length + 1) cap ∧ g < w.heap.size ∧ B ≤ g ∧ RIn w (some ⟨g, 0, none⟩) (r :: L) := by
  have h' := h
  rcases h.2 with ⟨rfl, h0⟩ | ⟨g, cap, cur, rfl, hB, hh, _⟩
  · simp at h0
  · exact ⟨g, cap, rfl, lt_of_block hh, hB, RIn.owned h' (lt_of_block hh)⟩
theorem rin_new (w : World) (r : Rec) : RIn (w.alloc (.cells #[.int .i64 r.off, .string r.key, .string r.val, .bool r.gone] 49)) (some ⟨w.heap.size, 0, none⟩) [r] := by
  intro i q hq
  cases i with
  | zero =>
    simp at hq
    subst hq
    exact ⟨_, 0, rfl, by simp, by simp, by simp, by simp, by simp⟩
  | succ i => simp at hq
/-- The cells of a record that is gone. -/
def RB0 (w : World) (g : Nat) : Prop := w.cell? ⟨g, 0, none⟩ = some (.int .i64 7) ∧ w.cell? ⟨g, 1, none⟩ = some (.string ⟨#[107]⟩) ∧ w.cell? ⟨g, 2, none⟩ = some (.string ⟨#[]⟩) ∧ w.cell? ⟨g, 3, none⟩ = some (.bool true)
theorem aw_of (W : World) : Calls Tryz.prog 75 #[.string ⟨#[2, 1, 107, 0]⟩, .int .i64 5, .int .i64 1] W fun e w' => ∃ g cap, e = .returned (.tuple #[.slice (some ⟨g, 0, none⟩) 1 cap, .int .i64 0]) ∧ RB0 w' g ∧ Below W.heap.size W w' := by
  have h := of_ok [2, 1, 107, 0] 5 1 W (by omega) (by simp)
  refine h.mono ?_
  have e : ofO [2, 1, 107, 0] 5 1 = some [⟨7, ⟨#[107]⟩, ⟨#[]⟩, true⟩] := by
    unfold ofO
    rw [if_pos ⟨rfl, by omega⟩]
    exact ofL_recsL 5 [⟨7, ⟨#[107]⟩, ⟨#[]⟩, true⟩] rfl (by omega)
  rintro r w' (⟨L, v, h1, rfl, h3, h4⟩ | ⟨h1, _⟩)
  · rw [e] at h1
    cases h1
    obtain ⟨g, cap, rfl, hg, _, hin⟩ := h3.row
    obtain ⟨b, off, hb, _, c0, c1, c2, c3⟩ := hin 0 _ rfl
    cases hb
    exact ⟨g, cap, rfl, ⟨by simpa using c0, by simpa using c1, by simpa using c2, by simpa using c3⟩, h4⟩
  · rw [e] at h1; cases h1
end Go.Proofs.YtcjlcieheepegaaGreatDoor
namespace Go.Proofs.YtcjlcieheepegaaGreatDoor
open Go.RowKit
set_option linter.unusedVariables false
set_option maxRecDepth 20000

theorem isEmpty_eq (L : ByteArray) : L.toList.isEmpty = decide (L.size = 0) := by
  rw [ByteArray.toList_eq]
  have : L.size = L.data.toList.length := (Array.length_toList).symm
  rw [this]
  cases L.data.toList <;> simp
set_option maxHeartbeats 1000000 in
theorem may_ok (off : Int) (key val : ByteArray) (gone : Bool) (w : World) (hk : key.size ≤ 9223372036854775807) (hv : val.size ≤ 9223372036854775807) :
    Calls Tryz.prog 70 #[.agg #[.int .i64 off, .string key, .string val, .bool gone]] w fun e w' => e = .returned (.bool (mayB ⟨off, key, val, gone⟩)) ∧ Below w.heap.size w w' := by
  have HB : Hid (Below w.heap.size w (w.alloc (.cells #[.int .i64 off, .string key, .string val, .bool gone] 49))) := (Below.refl _ _).alloc (Nat.le_refl _) _
  have HM : Hid (mayB ⟨off, key, val, gone⟩ = true ↔ offB off = true ∧ key.size ≤ 64 ∧ val.size ≤ 4096 ∧ (gone = true → val.size = 0)) := mayB_iff ⟨off, key, val, gone⟩
  obtain ⟨m, hm⟩ : ∃ m, mayB ⟨off, key, val, gone⟩ = m := ⟨_, rfl⟩
  rw [hm] at HM ⊢
  clear hm
  have ho : offB off = true ↔ 0 ≤ off ∧ off < 1099511627776 := by unfold offB; simp
  have hie := isEmpty_eq val
  by_cases h : 0 ≤ off ∧ off < 1099511627776 ∧ key.size ≤ 64 ∧ val.size ≤ 4096 ∧ (gone = true → val.size = 0)
  · obtain rfl : m = true := HM.out.2 ⟨ho.2 ⟨h.1, h.2.1⟩, h.2.2⟩
    obtain ⟨h1, h2, h3, h4, h5⟩ := h
    cases gone
    · clear h5
      go_enter Tryz.func70, Tryz.ntmps70
      go_wp2
      go_ret
      exact ⟨rfl, HB.out⟩
    · have h6 : val.toList.isEmpty = true := by rw [hie]; exact decide_eq_true (h5 rfl)
      clear h5 hie
      go_enter Tryz.func70, Tryz.ntmps70
      go_wp2
      go_ret
      exact ⟨rfl, HB.out⟩
  · obtain rfl : m = false := by
      cases m
      · rfl
      · have h1 := HM.out.1 rfl
        exact absurd ⟨(ho.1 h1.1).1, (ho.1 h1.1).2, h1.2⟩ h
    clear ho
    by_cases h1 : 0 ≤ off
    · by_cases h2 : off < 1099511627776
      · by_cases h3 : key.size ≤ 64
        · by_cases h4 : val.size ≤ 4096
          · cases gone
            · exact absurd ⟨h1, h2, h3, h4, fun h => absurd h (by decide)⟩ h
            · have h6 : val.toList.isEmpty = false := by
                rw [hie]
                exact decide_eq_false (fun h0 => h ⟨h1, h2, h3, h4, fun _ => h0⟩)
              clear hie h
              go_enter Tryz.func70, Tryz.ntmps70
              go_wp2
              go_ret
              exact ⟨rfl, HB.out⟩
          · clear h hie
            go_enter Tryz.func70, Tryz.ntmps70
            go_wp2
            go_ret
            exact ⟨rfl, HB.out⟩
        · clear h hie
          go_enter Tryz.func70, Tryz.ntmps70
          go_wp2
          go_ret
          exact ⟨rfl, HB.out⟩
      · clear h hie
        go_enter Tryz.func70, Tryz.ntmps70
        go_wp2
        go_ret
        exact ⟨rfl, HB.out⟩
    · clear h hie
      go_enter Tryz.func70, Tryz.ntmps70
      go_wp2
      go_ret
      exact ⟨rfl, HB.out⟩
theorem rnumber_ok (n : Nat) (w : World) (hn : n ≤ 9223372036854775807) :
    Calls Tryz.prog 46 #[.int .i64 n] w fun e w' => e = .returned (.string (mk (vb n))) ∧ Below w.heap.size w w' := by
  have HP : Hid (∀ W, Calls Tryz.prog 71 #[.int .i64 n] W fun e w' => e = .returned (.tuple #[.string (mk (vb n)), .int .i64 0]) ∧ Below W.heap.size W w') := fun W => refPutVar n W hn
  generalize mk (vb n) = z at HP
  go_enter Tryz.func46, Tryz.ntmps46
  go_wp2_with fail
  refine (HP.out _).mono ?_
  rintro e w1 ⟨rfl, hb1⟩
  have HB1 : Hid (Below w.heap.size w w1) := hb1
  clear hb1
  go_wp2
  go_ret
  exact ⟨rfl, HB1.out⟩
end Go.Proofs.YtcjlcieheepegaaGreatDoor
