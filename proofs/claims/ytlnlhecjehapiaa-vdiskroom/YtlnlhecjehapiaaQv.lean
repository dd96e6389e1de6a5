/- Layer 8: VdiskRoom: a round's state. -/
import Derived.Test.YtlnlhecjehapiaaQu
namespace Go.Proofs.Ytlnlhecjehapiaa
open Go.RowKit Go.Maps Go.Sort
set_option linter.unusedVariables false
set_option maxRecDepth 20000

/-- Between two calls: the disk, its bytes, the row of names. -/
def RmSt (w : World) (B d nn nb : Nat) (u : Nat) (wr : World) : Prop :=
  Below B w wr ∧ wr.heap[nb]? = some (.cells #[.string ⟨#[97]⟩, .string ⟨#[98]⟩, .string ⟨#[99]⟩] 9 (0, 0)) ∧ B ≤ wr.heap.size ∧ ∃ z, R3 wr B d nn z ∧ z 0 + z 1 + z 2 = u
theorem RmSt.step {w wr w' : World} {B d nn nb u u' : Nat} {z : Nat → Nat} (h : RmSt w B d nn nb u wr) (hv : VF B wr w') (hz : R3 w' B d nn z) (hu : z 0 + z 1 + z 2 = u') : RmSt w B d nn nb u' w' := by
  obtain ⟨h1, h2, h3, _⟩ := h
  exact ⟨h1.trans hv.below, (hv.kept nb _ _ _ h2 (by decide) (by decide) (by decide)).trans h2, hz.base.1, z, hz, hu⟩
theorem RmSt.below {w wr w' : World} {B d nn nb u : Nat} (h : RmSt w B d nn nb u wr) (hb : Below wr.heap.size wr w') : RmSt w B d nn nb u w' := by
  obtain ⟨z, hz, hu⟩ := h.2.2.2
  exact h.step (VF.of hb hz.base.1) (hz.below hb) hu
theorem RmSt.le {w wr : World} {B d nn nb u : Nat} (h : RmSt w B d nn nb u wr) : u ≤ nn := by
  obtain ⟨z, hz, hu⟩ := h.2.2.2
  rw [← hu]; exact hz.base.2.1
theorem RmSt.names {w wr : World} {B d nn nb u : Nat} (h : RmSt w B d nn nb u wr) : wr.cell? ⟨nb, 0, none⟩ = some (.string ⟨#[97]⟩) ∧ wr.cell? ⟨nb, 1, none⟩ = some (.string ⟨#[98]⟩) ∧ wr.cell? ⟨nb, 2, none⟩ = some (.string ⟨#[99]⟩) := by
  have h1 := h.2.1
  exact ⟨by simp [World.cell?, h1], by simp [World.cell?, h1], by simp [World.cell?, h1]⟩
theorem RmSt.name {w wr : World} {B d nn nb u : Nat} (h : RmSt w B d nn nb u wr) (r : Nat) (hr : r < 3) : wr.cell? ⟨nb, r, none⟩ = some (.string (nm r)) := by
  obtain ⟨h0, h1, h2⟩ := h.names
  match r, hr with
  | 0, _ => exact h0
  | 1, _ => exact h1
  | 2, _ => exact h2
theorem rm_used {w wr : World} {B d nn nb u : Nat} (h : RmSt w B d nn nb u wr) :
    Calls Try.prog 19 #[.pointer (some ⟨d, 0, none⟩)] wr fun e w' => e = .returned (.int .i64 (u : Nat)) ∧ RmSt w B d nn nb u w' := by
  obtain ⟨z, hz, hu⟩ := h.2.2.2
  refine (r3_used wr B d nn z hz).mono ?_
  rintro e w' ⟨rfl, hb⟩
  exact ⟨by rw [hu], h.below hb⟩
theorem rm_remove {w wr : World} {B d nn nb u : Nat} (h : RmSt w B d nn nb u wr) (x : Nat) (hx : x < 3) :
    Calls Try.prog 17 #[.pointer (some ⟨d, 0, none⟩), .string (nm x)] wr fun e w' => ∃ (y : Int) (u' : Nat), e = .returned (.int .i64 y) ∧ RmSt w B d nn nb u' w' := by
  obtain ⟨z, hz, hu⟩ := h.2.2.2
  refine (r3_remove wr B d nn z hz x hx).mono ?_
  rintro e w' ⟨y, z', rfl, h1, h2⟩
  exact ⟨y, _, rfl, h.step h2 h1 rfl⟩
theorem rm_cut {w wr : World} {B d nn nb u : Nat} (h : RmSt w B d nn nb u wr) (x : Nat) (hx : x < 3) (k : Nat) :
    Calls Try.prog 15 #[.pointer (some ⟨d, 0, none⟩), .string (nm x), .int .i64 (k : Nat)] wr fun e w' => ∃ (y : Int) (u' : Nat), e = .returned (.int .i64 y) ∧ RmSt w B d nn nb u' w' := by
  obtain ⟨z, hz, hu⟩ := h.2.2.2
  refine (r3_cut wr B d nn z hz x hx k).mono ?_
  rintro e w' ⟨y, z', rfl, h1, h2⟩
  exact ⟨y, _, rfl, h.step h2 h1 rfl⟩
theorem rm_append {w wr : World} {B d nn nb u : Nat} (h : RmSt w B d nn nb u wr) (x : Nat) (hx : x < 3) (t : ByteArray) :
    Calls Try.prog 9 #[.pointer (some ⟨d, 0, none⟩), .string (nm x), .string t] wr fun e w' => (u + t.size ≤ nn ∧ e = .returned (.int .i64 0) ∧ RmSt w B d nn nb (u + t.size) w') ∨ (nn < u + t.size ∧ e = .returned (.int .i64 80) ∧ RmSt w B d nn nb u w') := by
  obtain ⟨z, hz, hu⟩ := h.2.2.2
  refine (r3_append wr B d nn z hz x hx t).mono ?_
  rintro e w' (⟨h1, rfl, ⟨z', h2, h3⟩, h4⟩ | ⟨h1, rfl, h2, h4⟩)
  · exact .inl ⟨by omega, rfl, h.step h4 h2 (by omega)⟩
  · exact .inr ⟨by omega, rfl, h.step h4 h2 hu⟩
/-- The sizes that are told. -/
def SizesAt (wr : World) (d : Nat) (y0 y1 y2 : Int) : Prop :=
  Calls Try.prog 13 #[.pointer (some ⟨d, 0, none⟩), .string ⟨#[97]⟩] wr (fun e w' => e = .returned (.int .i64 y0) ∧ w' = wr) ∧
  Calls Try.prog 13 #[.pointer (some ⟨d, 0, none⟩), .string ⟨#[98]⟩] wr (fun e w' => e = .returned (.int .i64 y1) ∧ w' = wr) ∧
  Calls Try.prog 13 #[.pointer (some ⟨d, 0, none⟩), .string ⟨#[99]⟩] wr (fun e w' => e = .returned (.int .i64 y2) ∧ w' = wr)
theorem r3_size' (w : World) (B d n : Nat) (z : Nat → Nat) (h : R3 w B d n z) (x : Nat) (hx : x < 3) :
    ∃ y : Int, max 0 y = (z x : Int) ∧ Calls Try.prog 13 #[.pointer (some ⟨d, 0, none⟩), .string (nm x)] w fun e w' => e = .returned (.int .i64 y) ∧ w' = w := by
  obtain ⟨F, h1, h2⟩ := h
  have hz := h2 x hx
  cases hF : F (nk x) with
  | none =>
    refine ⟨-1, ?_, size_none w B d n _ _ F h1 (nm x) (may_nm x) hF⟩
    rw [hF] at hz
    simp [szF] at hz
    omega
  | some p =>
    obtain ⟨l, k⟩ := p
    refine ⟨(l.length : Nat), ?_, size_some w B d n _ _ F h1 (nm x) (may_nm x) l k hF⟩
    rw [hF] at hz
    simp [szF] at hz
    omega
theorem RmSt.sizes {w wr : World} {B d nn nb u : Nat} (h : RmSt w B d nn nb u wr) : ∃ (y0 y1 y2 : Int) (a0 a1 a2 : Nat), SizesAt wr d y0 y1 y2 ∧ max 0 y0 = (a0 : Int) ∧ max 0 y1 = (a1 : Int) ∧ max 0 y2 = (a2 : Int) ∧ a0 + a1 + a2 = u := by
  obtain ⟨z, hz, hu⟩ := h.2.2.2
  obtain ⟨y0, e0, c0⟩ := r3_size' wr B d nn z hz 0 (by omega)
  obtain ⟨y1, e1, c1⟩ := r3_size' wr B d nn z hz 1 (by omega)
  obtain ⟨y2, e2, c2⟩ := r3_size' wr B d nn z hz 2 (by omega)
  exact ⟨y0, y1, y2, z 0, z 1, z 2, ⟨c0, c1, c2⟩, e0, e1, e2, hu⟩
theorem RmSt.tail {w wr : World} {B d nn nb u : Nat} (h : RmSt w B d nn nb u wr) (hn : nn ≤ 255) : ∃ (y0 y1 y2 : Int) (z0 z1 z2 : Nat), Hid (SizesAt wr d y0 y1 y2) ∧ max 0 y0 = (z0 : Int) ∧ max 0 y1 = (z1 : Int) ∧ max 0 y2 = (z2 : Int) ∧ Hid ((u : Int) = (z0 : Int) + (z1 : Int) + (z2 : Int)) ∧ z0 ≤ 255 ∧ z1 ≤ 255 ∧ z2 ≤ 255 ∧ Hid (¬ (nn : Int) < (z0 : Int) + (z1 : Int) + (z2 : Int)) := by
  obtain ⟨y0, y1, y2, z0, z1, z2, hs, e0, e1, e2, hu⟩ := h.sizes
  have hle := h.le
  exact ⟨y0, y1, y2, z0, z1, z2, hs, e0, e1, e2, (by omega : (u : Int) = (z0 : Int) + (z1 : Int) + (z2 : Int)), by omega, by omega, by omega, (by omega : ¬ (nn : Int) < (z0 : Int) + (z1 : Int) + (z2 : Int))⟩
end Go.Proofs.Ytlnlhecjehapiaa
