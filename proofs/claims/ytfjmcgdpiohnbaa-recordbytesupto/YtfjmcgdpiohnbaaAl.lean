/- Two records held against one another; what must come, whatever the arguments are. -/
import Derived.Test.YtfjmcgdpiohnbaaAk
import Derived.Laws.StructEq
namespace Go.Proofs.Ytfjmcgdpiohnbaa
open Go.RowKit
set_option linter.unusedVariables false

/-- Are two records the same? -/
def eqR (a : Int) (k v : ByteArray) (g : Bool) (a' : Int) (k' v' : ByteArray) (g' : Bool) : Bool := (a == a') && ((k.toList == k'.toList) && ((v.toList == v'.toList) && (g == g')))
theorem eql_rec (a a' : Int) (k v k' v' : ByteArray) (g g' : Bool) (w : World) :
    (Op.equalIn 10000 28 (.agg #[.int .i64 a, .string k, .string v, .bool g]) (.agg #[.int .i64 a', .string k', .string v', .bool g'])).run Try.prog w = .ok (eqR a k v g a' k' v' g') w := by
  rw [run_equalIn_struct w 9999 _ _ _ (by kernel_rfl) (by kernel_rfl)]
  simp only [Program.fieldsOf, Try.underlying28]
  simp [Op.eqFields, go_sem]
  unfold eqR
  by_cases h1 : a = a'
  · by_cases h2 : k.toList = k'.toList
    · by_cases h3 : v.toList = v'.toList
      · by_cases h4 : g = g'
        · simp [h1, h2, h3, h4]
        · simp [h1, h2, h3, h4]
      · simp [h1, h2, h3]
    · simp [h1, h2]
  · simp [h1]
theorem run_eqlR (a a' : Int) (k v k' v' : ByteArray) (g g' : Bool) (w : World) :
    (binOp .eql 28 (.agg #[.int .i64 a, .string k, .string v, .bool g]) (.agg #[.int .i64 a', .string k', .string v', .bool g'])).run Try.prog w = .ok (.bool (eqR a k v g a' k' v' g')) w := by
  rw [run_eql_struct, eql_rec]
  rfl
theorem run_neqR (a a' : Int) (k v k' v' : ByteArray) (g g' : Bool) (w : World) :
    (binOp .neq 28 (.agg #[.int .i64 a, .string k, .string v, .bool g]) (.agg #[.int .i64 a', .string k', .string v', .bool g'])).run Try.prog w = .ok (.bool (!eqR a k v g a' k' v' g')) w := by
  rw [run_neq_struct, eql_rec]
  rfl
theorem eqR_self (a : Int) (k v : ByteArray) (g : Bool) : eqR a k v g a k v g = true := by simp [eqR]
theorem toList_inj {a b : ByteArray} (h : a.toList = b.toList) : a = b := by
  rw [ByteArray.toList_eq, ByteArray.toList_eq] at h
  rw [← mk_data a, ← mk_data b, h]
theorem eqR_iff (p q : Rec) : eqR p.off p.key p.val p.gone q.off q.key q.val q.gone = true ↔ p = q := by
  constructor
  · intro h
    simp only [eqR, Bool.and_eq_true, beq_iff_eq] at h
    obtain ⟨h1, h2, h3, h4⟩ := h
    obtain ⟨a, b, c, d⟩ := p
    obtain ⟨a', b', c', d'⟩ := q
    simp only at h1 h2 h3 h4
    rw [h1, toList_inj h2, toList_inj h3, h4]
  · rintro rfl; exact eqR_self _ _ _ _
theorem Own.row {w : World} {B : Nat} {v : Value} {r : Rec} {L : List Rec} (h : Own w B v (r :: L)) : ∃ g cap, v = .slice (some ⟨g, 0, none⟩) (L.length + 1) cap ∧ g < w.heap.size ∧ B ≤ g ∧ RIn w (some ⟨g, 0, none⟩) (r :: L) := by
  have h' := h
  rcases h.2 with ⟨rfl, h0⟩ | ⟨g, cap, cur, rfl, hB, hh, _⟩
  · simp at h0
  · exact ⟨g, cap, rfl, lt_of_block hh, hB, RIn.owned h' (lt_of_block hh)⟩
theorem rin_new (w : World) (r : Rec) : RIn (w.alloc (.cells #[.int .i64 r.off, .string r.key, .string r.val, .bool r.gone] 28)) (some ⟨w.heap.size, 0, none⟩) [r] := by
  intro i q hq
  cases i with
  | zero =>
    simp at hq
    subst hq
    exact ⟨_, 0, rfl, by simp, by simp, by simp, by simp, by simp⟩
  | succ i => simp at hq
/-- The cells of a record that is gone. -/
def RB0 (w : World) (g : Nat) : Prop := w.cell? ⟨g, 0, none⟩ = some (.int .i64 7) ∧ w.cell? ⟨g, 1, none⟩ = some (.string ⟨#[107]⟩) ∧ w.cell? ⟨g, 2, none⟩ = some (.string ⟨#[]⟩) ∧ w.cell? ⟨g, 3, none⟩ = some (.bool true)
theorem aw_bytes (W : World) : Calls Try.prog 9 #[.slice (some ⟨W.heap.size, 0, none⟩) 1 1, .int .i64 5] (W.alloc (.cells #[.int .i64 7, .string ⟨#[107]⟩, .string ⟨#[118]⟩, .bool false] 28)) fun e w' => e = .returned (.tuple #[.string ⟨#[2, 1, 107, 2, 118]⟩, .int .i64 0]) ∧ Below W.heap.size W w' := by
  have h := bytes_ok (some ⟨W.heap.size, 0, none⟩) 1 [⟨7, ⟨#[107]⟩, ⟨#[118]⟩, false⟩] 5 _ (rin_new W ⟨7, ⟨#[107]⟩, ⟨#[118]⟩, false⟩) (by intro r hr; simp at hr; subst hr; exact ⟨by decide, by decide⟩) (by simp)
  have hv : bytesV [⟨7, ⟨#[107]⟩, ⟨#[118]⟩, false⟩] 5 = .tuple #[.string ⟨#[2, 1, 107, 2, 118]⟩, .int .i64 0] := rfl
  refine h.mono ?_
  rintro e w' ⟨rfl, hb⟩
  exact ⟨by rw [hv], ((Below.refl _ W).alloc (Nat.le_refl _) _).trans (hb.mono (by simp))⟩
theorem aw_of (W : World) : Calls Try.prog 14 #[.string ⟨#[2, 1, 107, 0]⟩, .int .i64 5, .int .i64 1] W fun e w' => ∃ g cap, e = .returned (.tuple #[.slice (some ⟨g, 0, none⟩) 1 cap, .int .i64 0]) ∧ RB0 w' g ∧ Below W.heap.size W w' := by
  have h := of_ok [2, 1, 107, 0] 5 1 W (by omega) (by simp)
  refine h.mono ?_
  have e : ofO [2, 1, 107, 0] 5 1 = some [⟨7, ⟨#[107]⟩, ⟨#[]⟩, true⟩] := by
    unfold ofO
    rw [if_pos ⟨rfl, by omega⟩]
    exact ofL_recsL 5 [⟨7, ⟨#[107]⟩, ⟨#[]⟩, true⟩] rfl (by omega)
  rintro r w' (⟨L, v, h1, rfl, h3, h4⟩ | ⟨h1, _⟩)
  · rw [e] at h1
    cases h1
    obtain ⟨g, cap, rfl, hg, _, hin⟩ := h3.row
    obtain ⟨b, off, hb, _, c0, c1, c2, c3⟩ := hin 0 _ rfl
    cases hb
    exact ⟨g, cap, rfl, ⟨by simpa using c0, by simpa using c1, by simpa using c2, by simpa using c3⟩, h4⟩
  · rw [e] at h1; cases h1
set_option maxHeartbeats 1000000 in
theorem awake_ok (w : World) : Calls Try.prog 13 #[] w fun e w' => e = .returned (.bool true) ∧ Below w.heap.size w w' := by
  have heq := run_eqlR
  have hgd : Try.prog.eqGuardType Try.prog.depth 28 = false := by kernel_rfl
  go_enter Try.func13, Try.ntmps13
  go_wp2_with fail
  refine (aw_bytes _).mono ?_
  rintro e w1 ⟨rfl, hb1⟩
  have HB1 : Hid (Below w.heap.size w w1) := hb1
  clear hb1
  go_wp2_with fail
  refine (aw_of _).mono ?_
  rintro e w2 ⟨g, cap, rfl, ⟨c0, c1, c2, c3⟩, hb2⟩
  have HB2 : Hid (Below w.heap.size w w2) := HB1.out.trans (hb2.mono HB1.out.size)
  clear hb2
  have e1 := eqR_self 7 ⟨#[107]⟩ ⟨#[]⟩ true
  go_wp2
  go_ret
  exact ⟨rfl, HB2.out⟩
end Go.Proofs.Ytfjmcgdpiohnbaa
