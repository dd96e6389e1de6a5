/- Layer 5: DeflateLong. -/
import Derived.Test.YtbcflkdaeboflaaDoorV46
import Derived.Laws.IdiomStrings
namespace Go.Proofs.YtbcflkdaeboflaaDoor
open Go.RowKit
set_option linter.unusedVariables false
set_option maxRecDepth 20000

/-- The cells of block g begin with the bytes l. -/
def TB (w : World) (g : Nat) (l : List Nat) : Prop := ∀ j, j < l.length → w.cell? ⟨g, j, none⟩ = some (.int .u8 (l.getD j 0 : Nat))
theorem bytes_back (l : List Nat) (g cap : Nat) (w : World) (h : TB w g l) (hl : ∀ x ∈ l, x < 256) : (convert 28 9 (.slice (some ⟨g, 0, none⟩) l.length cap)).run Tryd.prog w = .ok (.string (toBA l)) w := by
  have hlen : (l.map UInt8.ofNat).length = l.length := by simp
  have := run_convert_bytes_back (P := Tryd.prog) w 28 9 5 ⟨g, 0, none⟩ cap (l.map UInt8.ofNat) Tryd.underlying28 Tryd.underlying5 Tryd.underlying9 (fun j hj => by
    have hj' : j < l.length := by simpa using hj
    have hx := hl l[j] (List.getElem_mem hj')
    rw [D5.add_zero_addr, h j hj', List.getD_eq_getElem?_getD, List.getElem?_eq_getElem hj']
    simp
    omega)
  rw [hlen] at this
  exact this
theorem infoU8' : (Tryd.prog.info? 5).map (fun i => (i.zero, i.size, i.bytes)) = some (some (.int .u8 0), 1, 1) := by kernel_rfl
theorem make_bytes (n : Nat) (w : World) (hn : n ≤ 2000000) : ∃ w1, (Instr.makeSlice 28 (.int .i64 (n : Int)) (.int .i64 (n : Int))).run Tryd.prog w = .ok (.slice (some ⟨w.heap.size, 0, none⟩) n n) w1 ∧ TB w1 w.heap.size (List.replicate n 0) ∧ Below w.heap.size w w1 := by
  have h := infoU8'
  cases hq : Tryd.prog.info? 5 with
  | none => simp [hq] at h
  | some i =>
    rw [hq] at h
    simp at h
    obtain ⟨h1, h2, h3⟩ := h
    obtain ⟨w1, hrun, hown, hgr⟩ := run_make_full (P := Tryd.prog) w w.heap.size 28 5 i (.int .u8 0) 1 Tryd.underlying28 hq h1 h2 .i64 .i64 n (by rw [h3]; omega) (by unfold maxLen; omega) (Nat.le_refl _)
    refine ⟨w1, hrun, ?_, (Below.refl _ _).grown hgr (Nat.le_refl _) (fun k hk => by cases hk)⟩
    intro j hj
    have hj' : j < n := by simpa using hj
    rw [hown.cellAt j (by omega)]
    have e : (madeCells (Value.int .u8 0).cells (n * 1)).toList = List.replicate (n * 1) (Value.int .u8 0) := toList_madeCells_one (.int .u8 0) (n * 1)
    rw [e, List.getElem?_replicate, if_pos (by omega), List.getD_eq_getElem?_getD, List.getElem?_replicate, if_pos hj']
    rfl
/-- How many blocks so many bytes are stored in. -/
def blkN : Nat → Nat → Nat
  | 0, _ => 1
  | f + 1, n => if 65535 < n then 1 + blkN f (n - 65535) else 1
theorem storedB_len {L : List Nat} {s : ByteArray} {l : Bool} (h : L.length % 8 = 0) : (storedB L s l).length = L.length + 40 + 8 * s.size := by
  unfold storedB
  simp only [List.length_append, bitsOf_length, textBits_length]
  rw [padded_length, List.length_append, headB_length]
  omega
theorem storedZ_len : ∀ (f : Nat) (L : List Nat) (s : ByteArray), L.length % 8 = 0 → (storedZ f L s).length = L.length + 8 * s.size + 40 * blkN f s.size
  | 0, L, s, h => by
    show (storedB L s true).length = _
    rw [storedB_len h]
    simp only [blkN]
    omega
  | f + 1, L, s, h => by
    unfold storedZ blkN
    by_cases h1 : 65535 < s.size
    · rw [if_pos h1, if_pos h1]
      obtain ⟨e1, e2⟩ := ext_left (s := s) (n := 65535) (by omega)
      have hl := storedB_len (L := L) (s := s.extract 0 65535) (l := false) h
      rw [storedZ_len f _ _ (by omega), hl, e1, e2]
      omega
    · rw [if_neg h1, if_neg h1, storedB_len h]
      omega
theorem blk17 : blkN 17 1048576 = 17 := by decide
theorem long_size {s : ByteArray} (h : s.size = 1048576) : (toBA (pack (storedZ 17 [] s))).size = s.size + 85 := by
  rw [pack_size, storedZ_len 17 [] s rfl, List.length_nil, h, blk17]
theorem zeros_size (n : Nat) : (toBA (List.replicate n 0)).size = n := by simp [toBA, ByteArray.size]
theorem and15 (n : Int) : ∃ K : Nat, K < 16 ∧ bits .and .i64 n 15 = (K : Int) := by
  have h := i64_mask 4 (by omega) n
  have e : ((2 ^ 4 - 1 : Nat) : Int) = 15 := by decide
  have e2 : ((2 ^ 4 : Nat) : Int) = 16 := by decide
  rw [e, e2] at h
  exact ⟨(n % 16).toNat, by omega, by rw [h]; omega⟩
set_option maxHeartbeats 4000000 in
theorem long_walk (more : Int) (w : World) (ho : OrdAt w) :
    Calls Tryd.prog 6 #[.int .i64 more] w fun e w' => e = .returned (.bool true) ∧ Below w.heap.size w w' := by
  have HA : Hid (∀ W, OrdAt W → Calls Tryd.prog 9 #[] W fun e w' => e = .returned (.bool true) ∧ Below W.heap.size W w') := fun W h => awake5_ok W h
  have HO : Hid (OrdAt w) := ho
  clear ho
  obtain ⟨K, hK, hKe⟩ := and15 more
  obtain ⟨N, hN⟩ : ∃ N, 1048576 + K = N := ⟨_, rfl⟩
  have hNi : (1048576 : Int) + (K : Int) = (N : Int) := by omega
  have hNw := D5.wrapN N (by omega)
  obtain ⟨w1, hmk, htb, hb1⟩ := make_bytes N w (by omega)
  have hcv := bytes_back (List.replicate N 0) w.heap.size N w1 htb (fun x hx => by rw [List.eq_of_mem_replicate hx]; omega)
  rw [List.length_replicate] at hcv
  have hsz := zeros_size N
  obtain ⟨S, hS⟩ : ∃ S, toBA (List.replicate N 0) = S := ⟨_, rfl⟩
  rw [hS] at hcv hsz
  have B1 : Hid (Below w.heap.size w w1) := hb1
  clear htb hb1 hS
  by_cases h0 : K = 0
  · have HN : Hid (N = 1048576) := by show _ = _; omega
    have H2 : Hid (∀ W, Calls Tryd.prog 11 #[.string S] W fun e w' => (∃ z, e = .returned (.tuple #[.string z, .int .i64 0]) ∧ z.size = N + 85) ∧ Below W.heap.size W w') := fun W => (Stored_ok S W (by omega)).mono fun e w' h => ⟨⟨_, h.1, by rw [long_size (by omega)]; omega⟩, h.2⟩
    have hlti : ¬ (1048576 : Int) < (N : Int) := by omega
    clear hN h0 hK
    go_enter Tryd.func6, Tryd.ntmps6
    go_wp2_with fail
    refine (H2.out w1).mono ?_
    rintro e w2 ⟨⟨z, he, hz⟩, b1⟩
    subst he
    have B2 : Hid (Below w.heap.size w w2) := B1.out.trans (b1.mono B1.out.size)
    have hn85 : wrap64 ((N : Int) + 85) = ((N + 85 : Nat) : Int) := by have := HN.out; unfold wrap64; omega
    have hzi : (z.size : Int) = (N : Int) + 85 := by omega
    clear b1 H2 hmk hcv
    go_wp2_with fail
    refine (HA.out w2 (HO.out.below B2.out)).mono ?_
    rintro e w4 ⟨he, b1⟩
    subst he
    have B4 : Hid (Below w.heap.size w w4) := B2.out.trans (b1.mono B2.out.size)
    clear b1 HA
    go_wp2
    go_ret
    exact ⟨rfl, B4.out⟩
  · have hbig : 1048576 < S.size := by omega
    have hlti : (1048576 : Int) < (N : Int) := by omega
    have H2 : Hid (∀ W, Calls Tryd.prog 11 #[.string S] W fun e w' => e = .returned (.tuple #[.string ⟨#[]⟩, .int .i64 4]) ∧ Below W.heap.size W w') := fun W => Stored_long S W hbig
    have H3 : Hid (∀ W, Calls Tryd.prog 10 #[.string S] W fun e w' => e = .returned (.tuple #[.string ⟨#[]⟩, .int .i64 4]) ∧ Below W.heap.size W w') := fun W => Deflate_long S W hbig
    have H4 : Hid (∀ W, Calls Tryd.prog 12 #[.string S] W fun e w' => e = .returned (.tuple #[.string ⟨#[]⟩, .int .i64 4]) ∧ Below W.heap.size W w') := fun W => Fixed_long S W hbig
    clear hN h0 hK hbig
    go_enter Tryd.func6, Tryd.ntmps6
    go_wp2_with fail
    refine (H2.out w1).mono ?_
    rintro e w2 ⟨he, b1⟩
    subst he
    have B2 : Hid (Below w.heap.size w w2) := B1.out.trans (b1.mono B1.out.size)
    clear b1 H2 hmk hcv
    go_wp2_with fail
    refine (H3.out w2).mono ?_
    rintro e w3 ⟨he, b1⟩
    subst he
    have B3 : Hid (Below w.heap.size w w3) := B2.out.trans (b1.mono B2.out.size)
    clear b1 H3
    go_wp2_with fail
    refine (H4.out w3).mono ?_
    rintro e w4 ⟨he, b1⟩
    subst he
    have B4 : Hid (Below w.heap.size w w4) := B3.out.trans (b1.mono B3.out.size)
    clear b1 H4
    go_wp2_with fail
    refine (HA.out w4 (HO.out.below B4.out)).mono ?_
    rintro e w5 ⟨he, b1⟩
    subst he
    have B5 : Hid (Below w.heap.size w w5) := B4.out.trans (b1.mono B4.out.size)
    clear b1 HA
    go_wp2
    go_ret
    exact ⟨rfl, B5.out⟩
end Go.Proofs.YtbcflkdaeboflaaDoor
