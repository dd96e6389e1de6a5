/- Layer 8: three files; a slice of twos that came in. -/
import Derived.Test.YtlnlhecjehapiaaQn
import Derived.ProofKit
import Derived.Deep.Slices
import Derived.OpenShut
namespace Go.Proofs.Ytlnlhecjehapiaa
open Go.RowKit Go.Maps Go.Sort Go.Deep
set_option linter.unusedVariables false
set_option maxRecDepth 20000

/-- A slice of twos that came in. -/
def A2 (w : World) (a0 : Option Addr) (len : Nat) (f : Nat → Nat → Int) : Prop :=
  len = 0 ∨ ∃ b off, a0 = some ⟨b, off, none⟩ ∧ b < w.heap.size ∧ ∀ i, i < len → ∀ j, j < 2 → w.cell? ⟨b, off + i * 2 + j, none⟩ = some (.int .i64 (f i j))
theorem cellsI : Try.prog.cellsOf 3 = 1 := by kernel_rfl
theorem cells2 : Try.prog.cellsOf 47 = 2 := by kernel_rfl
theorem add_none (b off n : Nat) : (⟨b, off, none⟩ : Addr).add n = ⟨b, off + n, none⟩ := by
  unfold Addr.add
  split
  · next h => subst h; rfl
  · rfl
theorem open_two {H : Type} {enc : TypeId × Value → H} {W : World} {n : Nat} {cs : List Value} {y : DataW H × List MemPlace} (h : DataW.trod enc Try.prog W 0 (fun _ => true) true n 47 cs = some y) :
    ∃ g : Nat → Int, ∀ j, j < 2 → cs[j]? = some (.int .i64 (g j)) := by
  obtain ⟨xs, m, _, rfl, hl, hlen, hf⟩ := DataW.trod_array Try.underlying47 h
  rw [cells2] at hl
  rw [cellsI] at hf
  match cs, hl, xs, hlen with
  | [c0, c1], _, [y0, y1], _ =>
    have f0 : DataW.trod enc Try.prog W 0 (fun _ => true) true m 3 [c0] = some y0 := hf 0 (by omega)
    have f1 : DataW.trod enc Try.prog W 0 (fun _ => true) true m 3 [c1] = some y1 := hf 1 (by omega)
    obtain ⟨k0, e0, _⟩ := DataW.trod_int Try.underlying3 f0
    obtain ⟨k1, e1, _⟩ := DataW.trod_int Try.underlying3 f1
    simp at e0 e1
    subst e0 e1
    refine ⟨fun j => match j with | 0 => k0 | _ => k1, fun j hj => ?_⟩
    match j, hj with
    | 0, _ => rfl
    | 1, _ => rfl
theorem open_twos {H : Type} {enc : TypeId × Value → H} {W : World} {fuel : Nat} {a0 : Option Addr} {len cap : Nat} {x : DataW H × List MemPlace} (h : DataW.trod enc Try.prog W 0 (fun _ => true) true fuel 46 [.slice a0 len cap] = some x) :
    ∃ f, A2 W a0 len f ∧ len ≤ 9223372036854775807 := by
  rcases open_slice Try.underlying46 h with ⟨h0, _⟩ | ⟨a, len', cap', m, n, D, Pl, hcs, _, hlc, hcm, hm, rfl, hx⟩
  · cases h0; exact ⟨fun _ _ => 0, .inl rfl, by omega⟩
  · cases hcs
    have hl63 : len ≤ 9223372036854775807 := by unfold maxLen at hcm; omega
    rcases Nat.eq_zero_or_pos len with hz | hpos
    · exact ⟨fun _ _ => 0, .inl hz, hl63⟩
    rw [cells2] at hx
    have hlm : len ≤ m := by rw [hm]; simp; exact hlc
    obtain ⟨b, off, spot⟩ := a
    have hcell : ∀ i, i < len → ∃ g : Nat → Int, ∀ j, j < 2 → W.cell? (((⟨b, off, spot⟩ : Addr).add (i * 2)).add j) = some (.int .i64 (g j)) := by
      intro i hi
      obtain ⟨cs', h1, h2⟩ := hx i (by omega)
      obtain ⟨g, hg⟩ := open_two h2
      obtain ⟨_, _, h3⟩ := World.cells?_some h1
      exact ⟨g, fun j hj => by rw [h3 j hj]; exact hg j hj⟩
    have hsp : spot = none := by
      obtain ⟨g, hg⟩ := hcell 0 hpos
      have h0 := hg 0 (by omega)
      exact World.cell?_spot (w := W) (a := ⟨b, off, spot⟩) (v := .int .i64 (g 0)) (by simpa [Addr.add] using h0)
    subst hsp
    have hlt : b < W.heap.size := by
      obtain ⟨g, hg⟩ := hcell 0 hpos
      have h0 := hg 0 (by omega)
      exact World.block_lt_of_cell? W ⟨b, off, none⟩ (u := .int .i64 (g 0)) (by simpa [Addr.add] using h0)
    obtain ⟨f, hf⟩ := choose_lt (α := Nat → Int) hcell
    refine ⟨f, .inr ⟨b, off, rfl, hlt, fun i hi j hj => ?_⟩, hl63⟩
    have := hf i hi j hj
    rw [add_none, add_none] at this
    exact this
theorem andN (x : Int) (k : Nat) (hk : k ≤ 4095) : ∃ a : Nat, a ≤ k ∧ bits .and .i64 x (k : Int) = (a : Int) := by
  have h : (BitVec.ofInt 64 x &&& BitVec.ofInt 64 (k : Int)).toNat ≤ k := by
    rw [BitVec.toNat_and]
    refine Nat.le_trans Nat.and_le_right ?_
    rw [BitVec.toNat_ofInt]
    omega
  refine ⟨_, h, ?_⟩
  show IntKind.i64.wrap ((BitVec.ofInt 64 x &&& BitVec.ofInt 64 (k : Int)).toNat : Int) = _
  rw [IntKind.wrap_i64]
  omega

/-- The three names. -/
def nm (x : Nat) : ByteArray := if x = 0 then ⟨#[97]⟩ else if x = 1 then ⟨#[98]⟩ else ⟨#[99]⟩
def nk (x : Nat) : List UInt8 := (nm x).data.toList
theorem may_nm (x : Nat) : May (nm x) := by
  unfold nm
  split
  · exact mayD_ok (by decide)
  · split
    · exact mayD_ok (by decide)
    · exact mayD_ok (by decide)
theorem nk_inj : ∀ x y : Nat, x < 3 → y < 3 → x ≠ y → nk x ≠ nk y := by
  intro x y hx hy hne
  have h0 : nk 0 = [97] := rfl
  have h1 : nk 1 = [98] := rfl
  have h2 : nk 2 = [99] := rfl
  match x, y, hx, hy with
  | 0, 0, _, _ => omega
  | 0, 1, _, _ => rw [h0, h1]; decide
  | 0, 2, _, _ => rw [h0, h2]; decide
  | 1, 0, _, _ => rw [h0, h1]; decide
  | 1, 1, _, _ => omega
  | 1, 2, _, _ => rw [h1, h2]; decide
  | 2, 0, _, _ => rw [h0, h2]; decide
  | 2, 1, _, _ => rw [h1, h2]; decide
  | 2, 2, _, _ => omega
def szF (o : Option (List Nat × Nat)) : Nat := match o with | some p => p.1.length | none => 0
def ctF (o : Option (List Nat × Nat)) : Nat := match o with | some _ => 1 | none => 0
theorem ctF_le (o : Option (List Nat × Nat)) : ctF o ≤ 1 := by unfold ctF; split <;> omega
/-- A disk of at most three files of these sizes. -/
def R3 (w : World) (B d n : Nat) (z : Nat → Nat) : Prop := ∃ F, VD w B d n F (ctF (F (nk 0)) + ctF (F (nk 1)) + ctF (F (nk 2))) (z 0 + z 1 + z 2) ∧ ∀ x, x < 3 → szF (F (nk x)) = z x
def setZ (z : Nat → Nat) (x v : Nat) : Nat → Nat := fun y => if y = x then v else z y
theorem upd_nk (F : List UInt8 → Option (List Nat × Nat)) (x y : Nat) (v : Option (List Nat × Nat)) (hx : x < 3) (hy : y < 3) : upd F (nk x) v (nk y) = if y = x then v else F (nk y) := by
  unfold upd
  by_cases e : y = x
  · subst e; simp
  · rw [if_neg e, if_neg (nk_inj y x hy hx e)]
/-- One file has turned. -/
theorem R3.turn {w : World} {B d n cnt us : Nat} {z : Nat → Nat} {F : List UInt8 → Option (List Nat × Nat)} {v : Option (List Nat × Nat)} {x : Nat} (hx : x < 3) (hz : ∀ x, x < 3 → szF (F (nk x)) = z x) (h : VD w B d n (upd F (nk x) v) cnt us)
    (hc : cnt + ctF (F (nk x)) = ctF (F (nk 0)) + ctF (F (nk 1)) + ctF (F (nk 2)) + ctF v) (hu : us + z x = z 0 + z 1 + z 2 + szF v) : R3 w B d n (setZ z x (szF v)) := by
  refine ⟨upd F (nk x) v, ?_, fun y hy => ?_⟩
  rotate_left
  · rw [upd_nk F x y v hx hy]
    unfold setZ
    by_cases e : y = x
    · simp [e]
    · rw [if_neg e, if_neg e]; exact hz y hy
  · have e1 : ctF (upd F (nk x) v (nk 0)) + ctF (upd F (nk x) v (nk 1)) + ctF (upd F (nk x) v (nk 2)) = cnt := by
      rw [upd_nk F x 0 v hx (by omega), upd_nk F x 1 v hx (by omega), upd_nk F x 2 v hx (by omega)]
      match x, hx with
      | 0, _ => simp; omega
      | 1, _ => simp; omega
      | 2, _ => simp; omega
    have e2 : setZ z x (szF v) 0 + setZ z x (szF v) 1 + setZ z x (szF v) 2 = us := by
      unfold setZ
      match x, hx with
      | 0, _ => simp; omega
      | 1, _ => simp; omega
      | 2, _ => simp; omega
    rw [e1, e2]
    exact h
theorem R3.below {w w' : World} {B d n : Nat} {z : Nat → Nat} (h : R3 w B d n z) (hb : Below w.heap.size w w') : R3 w' B d n z := by
  obtain ⟨F, h1, h2⟩ := h
  exact ⟨F, h1.below hb, h2⟩
theorem R3.base {w : World} {B d n : Nat} {z : Nat → Nat} (h : R3 w B d n z) : B ≤ w.heap.size ∧ z 0 + z 1 + z 2 ≤ n ∧ n ≤ 16777216 := by
  obtain ⟨F, h1, h2⟩ := h
  exact ⟨h1.base, h1.bounds.1, h1.bounds.2.1⟩
theorem r3_used (w : World) (B d n : Nat) (z : Nat → Nat) (h : R3 w B d n z) :
    Calls Try.prog 19 #[.pointer (some ⟨d, 0, none⟩)] w fun e w' => e = .returned (.int .i64 ((z 0 + z 1 + z 2 : Nat) : Int)) ∧ Below w.heap.size w w' := by
  obtain ⟨F, h1, h2⟩ := h
  exact used_call w B d n _ _ F h1
theorem r3_size (w : World) (B d n : Nat) (z : Nat → Nat) (h : R3 w B d n z) (x : Nat) (hx : x < 3) :
    Calls Try.prog 13 #[.pointer (some ⟨d, 0, none⟩), .string (nm x)] w fun e w' => ∃ y : Int, e = .returned (.int .i64 y) ∧ w' = w ∧ max 0 y = (z x : Int) := by
  obtain ⟨F, h1, h2⟩ := h
  have hz := h2 x hx
  cases hF : F (nk x) with
  | none =>
    refine (size_none w B d n _ _ F h1 (nm x) (may_nm x) hF).mono ?_
    rintro e w' ⟨rfl, rfl⟩
    refine ⟨-1, rfl, rfl, ?_⟩
    rw [hF] at hz
    simp [szF] at hz
    omega
  | some p =>
    obtain ⟨l, k⟩ := p
    refine (size_some w B d n _ _ F h1 (nm x) (may_nm x) l k hF).mono ?_
    rintro e w' ⟨rfl, rfl⟩
    refine ⟨(l.length : Nat), rfl, rfl, ?_⟩
    rw [hF] at hz
    simp [szF] at hz
    omega
theorem r3_remove (w : World) (B d n : Nat) (z : Nat → Nat) (h : R3 w B d n z) (x : Nat) (hx : x < 3) :
    Calls Try.prog 17 #[.pointer (some ⟨d, 0, none⟩), .string (nm x)] w fun e w' => ∃ (y : Int) (z' : Nat → Nat), e = .returned (.int .i64 y) ∧ R3 w' B d n z' ∧ VF B w w' := by
  have hr := h
  obtain ⟨F, h1, h2⟩ := h
  have hz := h2 x hx
  cases hF : F (nk x) with
  | none =>
    refine (remove_none w B d n _ _ F h1 (nm x) (may_nm x) hF).mono ?_
    rintro e w' ⟨rfl, rfl⟩
    exact ⟨3, z, rfl, hr, VF.refl _ _⟩
  | some p =>
    obtain ⟨l, k⟩ := p
    have hs := h1.some_ hF
    refine (remove_some w B d n _ _ F h1 (nm x) (may_nm x) l k hF).mono ?_
    rintro e w' ⟨rfl, h3, h4⟩
    rw [hF] at hz
    simp only [szF] at hz
    refine ⟨0, setZ z x (szF none), rfl, R3.turn hx h2 h3 ?_ ?_, h4⟩
    · rw [hF]; simp only [ctF] at *; omega
    · simp only [szF]; omega
theorem r3_cut (w : World) (B d n : Nat) (z : Nat → Nat) (h : R3 w B d n z) (x : Nat) (hx : x < 3) (k : Nat) :
    Calls Try.prog 15 #[.pointer (some ⟨d, 0, none⟩), .string (nm x), .int .i64 (k : Nat)] w fun e w' => ∃ (y : Int) (z' : Nat → Nat), e = .returned (.int .i64 y) ∧ R3 w' B d n z' ∧ VF B w w' := by
  have hr := h
  obtain ⟨F, h1, h2⟩ := h
  have hz := h2 x hx
  cases hF : F (nk x) with
  | none =>
    refine (cut_none w B d n _ _ F h1 (nm x) (may_nm x) hF k).mono ?_
    rintro e w' ⟨rfl, rfl⟩
    exact ⟨3, z, rfl, hr, VF.refl _ _⟩
  | some p =>
    obtain ⟨l, m⟩ := p
    have hs := h1.some_ hF
    by_cases hk : k ≤ l.length
    · refine (cut_some w B d n _ _ F h1 (nm x) (may_nm x) l m hF k hk).mono ?_
      rintro e w' ⟨rfl, h3, h4⟩
      rw [hF] at hz
      simp only [szF] at hz
      refine ⟨0, setZ z x (szF (some (l.take k, k))), rfl, R3.turn hx h2 h3 ?_ ?_, h4⟩
      · rw [hF]; rfl
      · simp only [szF, List.length_take]; omega
    · refine (cut_over w B d n _ _ F h1 (nm x) (may_nm x) l m hF k (by omega)).mono ?_
      rintro e w' ⟨rfl, rfl⟩
      exact ⟨1, z, rfl, hr, VF.refl _ _⟩
/-- What Append answers. -/
theorem r3_append (w : World) (B d n : Nat) (z : Nat → Nat) (h : R3 w B d n z) (x : Nat) (hx : x < 3) (t : ByteArray) :
    Calls Try.prog 9 #[.pointer (some ⟨d, 0, none⟩), .string (nm x), .string t] w fun e w' => (z 0 + z 1 + z 2 + t.size ≤ n ∧ e = .returned (.int .i64 0) ∧ (∃ z', R3 w' B d n z' ∧ z' 0 + z' 1 + z' 2 = z 0 + z 1 + z 2 + t.size) ∧ VF B w w') ∨ (n < z 0 + z 1 + z 2 + t.size ∧ e = .returned (.int .i64 80) ∧ R3 w' B d n z ∧ VF B w w') := by
  have hr := h
  have hbase := h.base
  obtain ⟨F, h1, h2⟩ := h
  have hz := h2 x hx
  have c0 := ctF_le (F (nk 0))
  have c1 := ctF_le (F (nk 1))
  have c2 := ctF_le (F (nk 2))
  have hset : ∀ v, setZ z x v 0 + setZ z x v 1 + setZ z x v 2 + z x = z 0 + z 1 + z 2 + v := fun v => by
    unfold setZ
    match x, hx with
    | 0, _ => simp; omega
    | 1, _ => simp; omega
    | 2, _ => simp; omega
  by_cases hroom : z 0 + z 1 + z 2 + t.size ≤ n
  · cases hF : F (nk x) with
    | none =>
      refine (append_none w B d n _ _ F h1 (nm x) t (may_nm x) hF (by omega) hroom).mono ?_
      rintro e w' ⟨rfl, h3, h4⟩
      rw [hF] at hz
      simp only [szF] at hz
      have hb : szF (some (bytesOf t, 0)) = t.size := by simp [szF, bytesOf_length]
      refine .inl ⟨hroom, rfl, ⟨setZ z x (szF (some (bytesOf t, 0))), R3.turn hx h2 h3 ?_ ?_, ?_⟩, h4⟩
      · rw [hF]; rfl
      · rw [hb]; omega
      · have := hset t.size; rw [hb]; omega
    | some p =>
      obtain ⟨l, m⟩ := p
      refine (append_some w B d n _ _ F h1 (nm x) t (may_nm x) l m hF hroom).mono ?_
      rintro e w' ⟨rfl, h3, h4⟩
      rw [hF] at hz
      simp only [szF] at hz
      have hb : szF (some (l ++ bytesOf t, m)) = l.length + t.size := by simp [szF, bytesOf_length]
      refine .inl ⟨hroom, rfl, ⟨setZ z x (szF (some (l ++ bytesOf t, m))), R3.turn hx h2 h3 ?_ ?_, ?_⟩, h4⟩
      · rw [hF]; rfl
      · rw [hb]; omega
      · have := hset (l.length + t.size); rw [hb]; omega
  · cases hF : F (nk x) with
    | none =>
      refine (append_disk_none w B d n _ _ F h1 (nm x) t (may_nm x) hF (by omega) (by omega)).mono ?_
      rintro e w' ⟨rfl, h3⟩
      exact .inr ⟨by omega, rfl, hr.below h3, VF.of h3 hbase.1⟩
    | some p =>
      obtain ⟨l, m⟩ := p
      refine (append_disk_some w B d n _ _ F h1 (nm x) t (may_nm x) l m hF (by omega)).mono ?_
      rintro e w' ⟨rfl, h3⟩
      exact .inr ⟨by omega, rfl, hr.below h3, VF.of h3 hbase.1⟩
end Go.Proofs.Ytlnlhecjehapiaa
