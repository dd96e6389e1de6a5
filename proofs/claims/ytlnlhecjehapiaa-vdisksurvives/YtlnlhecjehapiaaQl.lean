/- Layer 8: a disk of one file crashes. -/
import Derived.Test.YtlnlhecjehapiaaQk
namespace Go.Proofs.Ytlnlhecjehapiaa
open Go.RowKit Go.Maps Go.Sort
set_option linter.unusedVariables false
set_option maxRecDepth 20000

theorem one_of {M : List FR} {m : FR} (h : M.length = 1) (hm : m ∈ M) : M = [m] := by
  match M, h with
  | [x], _ => simp at hm; rw [hm]
theorem str_back (s : ByteArray) : (⟨s.data.toList.toArray⟩ : ByteArray) = s := by simp
/-- The names of a disk of one file. -/
theorem names_one {w w' : World} {m : FR} {e : Ending} (h : NamesEnd w [m] e w') : ∃ g cap, e = .returned (.slice (some ⟨g, 0, none⟩) 1 cap) ∧ w'.cell? ⟨g, 0, none⟩ = some (.string ⟨m.name.toArray⟩) ∧ Below w.heap.size w w' := by
  obtain ⟨g, cap, ss, rfl, hp, hown, hb⟩ := h
  have hs : ss = [m.name] := List.perm_singleton.1 hp
  subst hs
  refine ⟨g, cap, rfl, ?_, hb⟩
  have := hown.cells (g := g) rfl 0 (encStr m.name) (by simp)
  rw [add_zero_addr] at this
  exact this
def crashL (l : List Nat) (n : Nat) (k : Int) : Nat := n + min k.toNat (l.length - n)
/-- What a crash leaves of a disk of one file. -/
def CrashOne (w : World) (B d room : Nat) (F : List UInt8 → Option (List Nat × Nat)) (s : List UInt8) (l : List Nat) (n : Nat) (k : Int) (w' : World) : Prop :=
  VD w' B d room (upd F s (some (l.take (crashL l n k), crashL l n k))) 1 (crashL l n k) ∧ VF B w w'
theorem crash_end {w w1 w' : World} {B d room bm : Nat} {m : FR} {F : List UInt8 → Option (List Nat × Nat)} {k : Int} {e : Ending} (h : VM w B d room bm [m]) (hb : Below w.heap.size w w1) (hE : CrashEnd w1 B m k e w') (hl : ∀ t, look [m] t = F t) : CrashOne w B d room F m.name m.l m.n k w' := by
  obtain ⟨w0, hK, hb0⟩ := hE
  have h1 := h.below hb
  have h0 := h1.below hb0
  have hle := (h.each m (by simp)).le
  have hk : crashK m k ≤ m.l.length := by unfold crashK; omega
  obtain ⟨a1, a2⟩ := VD.kept h0 (by simp) hk hK hl
  refine ⟨?_, ((VF.of hb h.base).trans (VF.of hb0 h1.base)).trans a2⟩
  have e1 : used [m] - (m.l.length - crashK m k) = crashK m k := by simp [used]; omega
  rw [e1] at a1
  exact a1
set_option maxHeartbeats 2000000 in
theorem crash_one (w : World) (B d room us : Nat) (F : List UInt8 → Option (List Nat × Nat)) (h : VD w B d room F 1 us) (s : ByteArray) (hm : May s) (l : List Nat) (n : Nat) (hs : F s.data.toList = some (l, n)) (kv : Value) (k : Int)
    (hkv : (kv = .slice none 0 0 ∧ k = 0) ∨ (∃ g, kv = .slice (some ⟨g, 0, none⟩) 1 1 ∧ w.cell? ⟨g, 0, none⟩ = some (.int .i64 k))) :
    Calls Try.prog 11 #[.pointer (some ⟨d, 0, none⟩), kv] w fun e w' => e = .returned (.int .i64 0) ∧ CrashOne w B d room F s.data.toList l n k w' := by
  obtain ⟨bm, M, h1, h2, h3, h4⟩ := h
  obtain ⟨m, hf, e⟩ := look_some ((h2 _).trans hs)
  cases e
  obtain ⟨hm1, hm2⟩ := findF_some hf
  obtain rfl := one_of h3 hm1
  obtain ⟨c0, c1, c2⟩ := h1.cells
  have hnl : m.name.length ≤ 32 := by rw [hm2]; have := hm.2.1; simpa using this
  have hl : m.l.length ≤ 16777216 := by have := used_mem hm1; have := h1.hused; have := h1.hroom; omega
  have HG : Hid (∀ _ : Unit, Calls Try.prog 24 #[.pointer (some ⟨d, 0, none⟩)] w fun e w' => e = .returned (.bool true) ∧ w' = w) := fun _ => given_ok w d c0
  have HN : Hid (∀ _ : Unit, Calls Try.prog 18 #[.pointer (some ⟨d, 0, none⟩)] w (NamesEnd w [m])) := fun _ => names_ok w B d room bm [m] h1 (by simp) (fun x hx => by simp at hx; rw [hx]; exact hnl)
  have HL : Hid (∀ W, Below w.heap.size w W → (Instr.lookup 37 (.map (some bm)) (.string ⟨m.name.toArray⟩) false).run Try.prog W = .ok (.pointer (some ⟨m.blk, 0, none⟩)) W ∧ W.cell? ⟨d, 2, none⟩ = some (.map (some bm))) := fun W hW => by
    have hv := h1.below hW
    obtain ⟨es, hD, hp⟩ := hv.own
    have := look_run hD hp hv.apart ⟨m.name.toArray⟩ (by show m.name.toArray.size ≤ _; simp; unfold maxLen; omega)
    rw [show (⟨m.name.toArray⟩ : ByteArray).data.toList = m.name by simp, findF_of hv.apart (by simp)] at this
    exact ⟨this, hv.cells.2.2⟩
  have HC : Hid (∀ W, Below w.heap.size w W → Calls Try.prog 25 #[.pointer (some ⟨m.blk, 0, none⟩), .int .i64 k] W (CrashEnd W B m k)) := fun W hW => by
    have hv := h1.below hW
    exact crash_ok W B m (hv.each m (by simp)) hv.base k hl
  have HE : Hid (∀ W e w', Below w.heap.size w W → CrashEnd W B m k e w' → CrashOne w B d room F s.data.toList m.l m.n k w') := fun W e w' hW hE => by
    rw [← hm2]
    exact crash_end h1 hW hE h2
  obtain ⟨q, hq⟩ : ∃ q, m.blk = q := ⟨_, rfl⟩
  obtain ⟨nm, hnm⟩ : ∃ q, (⟨m.name.toArray⟩ : ByteArray) = q := ⟨_, rfl⟩
  have HNM : Hid ((⟨m.name.toArray⟩ : ByteArray) = nm) := hnm
  rw [hq] at HL HC
  rw [hnm] at HL
  clear h1 h2 h3 h4 hs hm hf hq hnm hm1 hm2 hnl hl
  rcases hkv with ⟨rfl, rfl⟩ | ⟨g0, rfl, hc0⟩
  · go_enter Try.func11, Try.ntmps11
    go_wp2_with fail
    refine (HG.out ()).mono ?_
    rintro e W ⟨rfl, hW⟩
    obtain rfl := hW.symm
    clear hW
    go_wp2_with fail
    refine (HN.out ()).mono ?_
    intro e w1 hne
    obtain ⟨g, cap, rfl, hcg, hb1⟩ := names_one hne
    rw [HNM.out] at hcg
    obtain ⟨hlk, hd2⟩ := HL.out w1 hb1
    have HB1 : Hid (Below w.heap.size w w1) := hb1
    clear hne hb1
    go_wp2_with fail
    refine wp_loop_rounds 2 ?_
    rw [rounds_succ]
    go_wp2_with fail
    refine (HC.out w1 HB1.out).mono ?_
    intro e w2 hE
    have H2 : Hid (CrashOne w B d room F s.data.toList m.l m.n 0 w2) := HE.out w1 e w2 HB1.out hE
    obtain rfl : e = .returned (.tuple #[]) := by obtain ⟨w0, hK, _⟩ := hE; exact hK.1
    clear hE
    go_wp2_with fail
    rw [rounds_succ]
    go_wp2
    go_ret
    exact ⟨rfl, H2.out⟩
  · go_enter Try.func11, Try.ntmps11
    go_wp2_with fail
    refine (HG.out ()).mono ?_
    rintro e W ⟨rfl, hW⟩
    obtain rfl := hW.symm
    clear hW
    go_wp2_with fail
    refine (HN.out ()).mono ?_
    intro e w1 hne
    obtain ⟨g, cap, rfl, hcg, hb1⟩ := names_one hne
    rw [HNM.out] at hcg
    obtain ⟨hlk, hd2⟩ := HL.out w1 hb1
    have HB1 : Hid (Below w.heap.size w w1) := hb1
    have hc1 : w1.cell? ⟨g0, 0, none⟩ = some (.int .i64 k) := by
      have hlt : g0 < w.heap.size := by
        unfold World.cell? at hc0
        cases hh : w.heap[g0]? with
        | none => simp [hh] at hc0
        | some o => exact (Array.getElem?_eq_some_iff.1 hh).1
      rw [hb1.cell hlt]; exact hc0
    clear hne hb1 hc0
    go_wp2_with fail
    refine wp_loop_rounds 2 ?_
    rw [rounds_succ]
    go_wp2_with fail
    refine (HC.out w1 HB1.out).mono ?_
    intro e w2 hE
    have H2 : Hid (CrashOne w B d room F s.data.toList m.l m.n k w2) := HE.out w1 e w2 HB1.out hE
    obtain rfl : e = .returned (.tuple #[]) := by obtain ⟨w0, hK, _⟩ := hE; exact hK.1
    clear hE
    go_wp2_with fail
    rw [rounds_succ]
    go_wp2
    go_ret
    exact ⟨rfl, H2.out⟩
end Go.Proofs.Ytlnlhecjehapiaa
