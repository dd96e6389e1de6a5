/- Layer 5: Stored and Fixed. -/
/- Layer 5: how often symbols come. -/
/- Layer 5: how many bytes tokens tell; what stored bytes cost; lengths without the noughts at their end. -/
import Derived.Test.YtbcflkdaeboflaaDoorV23
namespace Go.Proofs.YtbcflkdaeboflaaDoor
open Go.RowKit
set_option linter.unusedVariables false
set_option maxRecDepth 20000

/-- The bits of a text that is stored. -/
def storedZ : Nat → List Nat → ByteArray → List Nat
  | 0, L, s => storedB L s true
  | f + 1, L, s => if 65535 < s.size then storedZ f (storedB L (s.extract 0 65535) false) (s.extract 65535 s.size) else storedB L s true
theorem ext_left {s : ByteArray} {n : Nat} (h : n ≤ s.size) : (s.extract 0 n).size = n ∧ (s.extract n s.size).size = s.size - n := by
  rw [ByteArray.size_extract, ByteArray.size_extract]; omega
theorem bytesL_split {s : ByteArray} {n : Nat} (h : n ≤ s.size) : bytesL (s.extract 0 n) ++ bytesL (s.extract n s.size) = bytesL s := by
  unfold bytesL
  rw [← List.map_append]
  congr 1
  have e1 : (s.extract 0 n).data.toList = s.data.toList.take n := by simp [ByteArray.data_extract]
  have e2 : (s.extract n s.size).data.toList = s.data.toList.drop n := by
    simp only [ByteArray.data_extract, Array.toList_extract]
    rw [List.extract_eq_take_drop]
    exact List.take_of_length_le (by simp)
  rw [e1, e2, List.take_append_drop]
theorem storedZ_rd : ∀ (f : Nat) (L l : List Nat) (s : ByteArray), s.size ≤ 65535 * f → Rd L l → ∃ L0 l0, Rd L0 l0 ∧ l0.length ≤ (l ++ bytesL s).length ∧ Blk L0 (storedZ f L s) l0 (l ++ bytesL s) 1
  | 0, L, l, s, h, hr => ⟨L, l, hr, by rw [List.length_append]; omega, stored_blk (last := true) (by omega)⟩
  | f + 1, L, l, s, h, hr => by
    unfold storedZ
    by_cases h1 : 65535 < s.size
    · rw [if_pos h1]
      obtain ⟨e1, e2⟩ := ext_left (s := s) (n := 65535) (by omega)
      have hb : Blk L (storedB L (s.extract 0 65535) false) l (l ++ bytesL (s.extract 0 65535)) 0 := stored_blk (last := false) (by omega)
      have := storedZ_rd f _ _ (s.extract 65535 s.size) (by omega) (hr.step hb (by rw [List.length_append]; omega))
      rw [List.append_assoc, bytesL_split (by omega)] at this
      exact this
    · rw [if_neg h1]
      exact ⟨L, l, hr, by rw [List.length_append]; omega, stored_blk (last := true) (by omega)⟩
theorem storedZ_end {f : Nat} {L : List Nat} {s : ByteArray} (h : ¬ 65535 < s.size) : storedZ f L s = storedB L s true := by
  cases f with
  | zero => rfl
  | succ f => unfold storedZ; rw [if_neg h]
/-- A packer's struct and its writer, behind a call. -/
structure BW (w0 : World) (b U : Nat) (O : List Nat) (w : World) : Prop where
  box : w.heap[U]? = some (.cells #[.pointer (some ⟨b, 0, none⟩)] 63 (0, 0))
  pw : PW w b O
  bel : Below b w0 w
theorem BW.step {w0 w w' : World} {b U : Nat} {O O' : List Nat} (h : BW w0 b U O w) (hw : PW w' b O') (hf : PF b w w') : BW w0 b U O' w' := ⟨hf.kept h.pw h.box (by decide) (by decide), hw, h.bel.trans (hf.lower (Nat.le_of_lt h.pw.lt))⟩
theorem BW.any {w0 w : World} {b U : Nat} {O : List Nat} (h : BW w0 b U O w) (w' : World) (h1 : w'.os = w.os) (h2 : w'.tape = w.tape) (h3 : w'.output = w.output) (h4 : w'.heap = w.heap) : BW w0 b U O w' :=
  have hb : Below w.heap.size w w' := ⟨h1, h2, h3, by rw [h4]; exact Nat.le_refl _, fun k _ => by rw [h4]⟩
  h.step (WS.below h.pw hb) (PF.below hb)
theorem bw_start (w : World) : BW w w.heap.size (w.heap.size + 1) [] ((w.alloc (.cells #[.pointer (some ⟨w.heap.size, 0, none⟩), .slice none 0 0, .int .i64 0] 84)).alloc (.cells #[.pointer (some ⟨w.heap.size, 0, none⟩)] 63)) := by
  have hb : Below w.heap.size w (w.alloc (.cells #[.pointer (some ⟨w.heap.size, 0, none⟩), .slice none 0 0, .int .i64 0] 84)) := (Below.refl _ _).alloc (Nat.le_refl _) _
  refine ⟨?_, WS.below (WS.new w w.heap.size) ((Below.refl _ _).alloc (Nat.le_refl _) _), hb.alloc (by simp) _⟩
  have := heap_alloc_new (w.alloc (.cells #[.pointer (some ⟨w.heap.size, 0, none⟩), .slice none 0 0, .int .i64 0] 84)) (.cells #[.pointer (some ⟨w.heap.size, 0, none⟩)] 63)
  rw [show (w.alloc (.cells #[.pointer (some ⟨w.heap.size, 0, none⟩), .slice none 0 0, .int .i64 0] 84)).heap.size = w.heap.size + 1 by simp] at this
  exact this
def strLen : Value → Nat
  | .string t => t.size
  | _ => 0
set_option maxHeartbeats 1000000 in
theorem dstored_ok (s : ByteArray) (w : World) (hs : s.size ≤ 1048576) : Calls Tryd.prog 18 #[.string s] w fun e w' => e = .returned (.string (toBA (pack (storedZ 17 [] s)))) ∧ Below w.heap.size w w' := by
  obtain ⟨Z, hZ⟩ : ∃ Z, storedZ 17 [] s = Z := ⟨_, rfl⟩
  rw [hZ]
  have HZ : Hid (storedZ 17 [] s = Z) := hZ
  have HB := bw_start w
  have HNW : Hid (∀ _ : Unit, Calls Tryd.prog 28 #[] w fun e w' => e = .returned (.pointer (some ⟨w.heap.size, 0, none⟩)) ∧ w' = w.alloc (.cells #[.pointer (some ⟨w.heap.size, 0, none⟩), .slice none 0 0, .int .i64 0] 84)) := fun _ => newWriter w
  have HBH : Hid (BW w w.heap.size (w.heap.size + 1) [] ((w.alloc (.cells #[.pointer (some ⟨w.heap.size, 0, none⟩), .slice none 0 0, .int .i64 0] 84)).alloc (.cells #[.pointer (some ⟨w.heap.size, 0, none⟩)] 63))) := HB
  clear hZ HB
  go_enter Tryd.func18, Tryd.ntmps18
  go_wp2_with fail
  refine (HNW.out ()).mono ?_
  rintro e w1 ⟨rfl, rfl⟩
  clear HNW
  go_upto_block 0 with fail
  obtain ⟨W, hW⟩ : ∃ W, ((w.alloc (.cells #[.pointer (some ⟨w.heap.size, 0, none⟩), .slice none 0 0, .int .i64 0] 84)).alloc (.cells #[.pointer (some ⟨w.heap.size, 0, none⟩)] 63)) = W := ⟨_, rfl⟩
  obtain ⟨b, hb⟩ : ∃ b, w.heap.size = b := ⟨_, rfl⟩
  obtain ⟨U, hU⟩ : ∃ U, b + 1 = U := ⟨_, rfl⟩
  rw [hW, hb, hU] at HBH
  rw [hW, hb, hU]
  clear hW hU
  have HPS : Hid (∀ W' L (T : ByteArray) (last : Bool), BW w b U L W' → T.size ≤ 65535 → L.length ≤ 8400000 → Calls Tryd.prog 33 #[.agg #[.pointer (some ⟨b, 0, none⟩)], .string T, .bool last] W' fun e w' => e = .returned (.tuple #[]) ∧ PW w' b (storedB L T last) ∧ PF b W' w') := fun W' L T last h h1 h2 => pstored b L T last W' h1 (by omega) h.pw
  go_cut [0] (fun v0 wc => ∃ S : ByteArray, v0 = .string S ∧ S.size ≤ 65535 ∧ Hid (∃ L, BW w b U L wc ∧ storedB L S true = Z ∧ L.length ≤ 8400000))
  case first =>
    as_aux_lemma =>
      go_wp2_with fail
      go_loopw [0] (fun v0 wr => ∃ S : ByteArray, v0 = .string S ∧ S.size ≤ 1048576 ∧ Hid (∃ f L, BW w b U L wr ∧ storedZ f L S = Z ∧ S.size ≤ 65535 * f ∧ L.length + 8 * S.size + 42 * f ≤ 8400000)) (fun v0 _ => strLen v0)
      case atStart => exact ⟨s, rfl, hs, 17, [], HBH.out, HZ.out, by omega, by simp; omega⟩
      case round =>
        obtain ⟨S, rfl, hS, HR⟩ := hrel
        by_cases hlt : 65535 < S.size
        · have hlti : (65535 : Int) < (S.size : Int) := by omega
          obtain ⟨f, L, h1, h2, h3, h4⟩ := HR.out
          obtain ⟨f, rfl⟩ : ∃ f', f = f' + 1 := ⟨f - 1, by omega⟩
          unfold storedZ at h2
          rw [if_pos hlt] at h2
          obtain ⟨e1, e2⟩ := ext_left (s := S) (n := 65535) (by omega)
          obtain ⟨A, hA⟩ : ∃ A, S.extract 0 65535 = A := ⟨_, rfl⟩
          obtain ⟨B, hB⟩ : ∃ B, S.extract 65535 S.size = B := ⟨_, rfl⟩
          rw [hA] at h2 e1
          rw [hB] at h2 e2
          have hln := storedB_length L A false
          have HNX : Hid (BW w b U L wr ∧ storedZ f (storedB L A false) B = Z ∧ B.size ≤ 65535 * f ∧ (storedB L A false).length + 8 * B.size + 42 * f ≤ 8400000 ∧ A.size = 65535 ∧ B.size < S.size ∧ L.length ≤ 8400000) := ⟨h1, h2, by omega, by omega, e1, by omega, by omega⟩
          have hBs : B.size ≤ 1048576 := by omega
          clear h1 h2 h3 h4 e1 e2 hln HR
          go_upto_region 3 with fail
          have HS0 : Hid (wr.drew.cell? ⟨U, 0, none⟩ = some (.pointer (some ⟨b, 0, none⟩))) := by have h0 := box_cell HNX.out.1.box; exact h0
          have HC : Hid (∀ W' v, BW w b U L W' → v = Value.string A → Calls Tryd.prog 33 #[.agg #[.pointer (some ⟨b, 0, none⟩)], v, .bool false] W' fun e w' => e = .returned (.tuple #[]) ∧ BW w b U (storedB L A false) w') := fun W' v h hv => by
            rw [hv]
            exact (HPS.out W' L A false h (by rw [HNX.out.2.2.2.2.1]; exact Nat.le_refl _) HNX.out.2.2.2.2.2.2).mono fun e w' ⟨a1, a2, a3⟩ => ⟨a1, h.step a2 a3⟩
          go_region_held_law (fun w' => w'.cell? ⟨U, 0, none⟩ = some (.pointer (some ⟨b, 0, none⟩)))
            (first | assumption | exact HS0.out | go_keep)
            (first | (go_at_call 33; refine (HC.out wr.drew _ (HNX.out.1.any wr.drew rfl rfl rfl rfl) (by first | rfl | (rw [hA]))).mono ?_; rintro e w3 ⟨he3, hw3⟩; subst he3; have H3 : Hid (BW w b U (storedB L A false) w3) := hw3; have KS := box_cell hw3.box; clear hw3))
          clear HS0 KS HC
          go_wp2
          have HZ2 : Hid (∃ f L, BW w b U L w3 ∧ storedZ f L B = Z ∧ B.size ≤ 65535 * f ∧ L.length + 8 * B.size + 42 * f ≤ 8400000) := ⟨f, storedB L A false, H3.out, HNX.out.2.1, HNX.out.2.2.1, HNX.out.2.2.2.1⟩
          exact ⟨⟨B, by first | rfl | rw [hB], hBs, HZ2⟩, by show strLen _ < strLen _; simp [strLen]; have := HNX.out.2.2.2.2.2.1; first | exact this | (rw [hB]; exact this)⟩
        · have hlti : ¬ (65535 : Int) < (S.size : Int) := by omega
          obtain ⟨f, L, h1, h2, h3, h4⟩ := HR.out
          rw [storedZ_end hlt] at h2
          have HE : Hid (∃ L, BW w b U L wr ∧ storedB L S true = Z ∧ L.length ≤ 8400000) := ⟨L, h1, h2, by omega⟩
          clear h1 h2 h3 h4 HR
          go_wp2_with fail
          go_meet
          case rel => exact ⟨S, rfl, by omega, HE.out⟩
  case rest =>
    obtain ⟨S, rfl, hS, HR⟩ := hcut
    obtain ⟨L, h1, h2, h3⟩ := HR.out
    have z0 := box_cell h1.box
    have HC : Hid (∀ _ : Unit, Calls Tryd.prog 33 #[.agg #[.pointer (some ⟨b, 0, none⟩)], .string S, .bool true] wc fun e w' => e = .returned (.tuple #[]) ∧ BW w b U Z w') := fun _ => (HPS.out wc L S true h1 hS h3).mono fun e w' ⟨a1, a2, a3⟩ => ⟨a1, by rw [← h2]; exact h1.step a2 a3⟩
    clear HR h1 h2 h3 HPS
    go_wp2_with fail
    refine (HC.out ()).mono ?_
    rintro e w2 ⟨rfl, hw2⟩
    have H2 : Hid (BW w b U Z w2) := hw2
    have z1 := box_cell hw2.box
    have HD : Hid (∀ _ : Unit, Calls Tryd.prog 31 #[.pointer (some ⟨b, 0, none⟩)] w2 fun e w' => e = .returned (.string (toBA (pack Z))) ∧ w' = w2) := fun _ => wdone b b Z w2 hw2.pw
    clear hw2 HC z0
    go_wp2_with fail
    refine (HD.out ()).mono ?_
    rintro e w3 ⟨rfl, rfl⟩
    go_wp2
    go_ret
    refine ⟨rfl, ?_⟩
    first | exact H2.out.bel | (rw [hb]; exact H2.out.bel)
theorem Stored_ok (s : ByteArray) (w : World) (hs : s.size ≤ 1048576) : Calls Tryd.prog 11 #[.string s] w fun e w' => e = .returned (.tuple #[.string (toBA (pack (storedZ 17 [] s))), .int .i64 0]) ∧ Below w.heap.size w w' := by
  have HC : Hid (∀ _ : Unit, Calls Tryd.prog 18 #[.string s] w fun e w' => e = .returned (.string (toBA (pack (storedZ 17 [] s)))) ∧ Below w.heap.size w w') := fun _ => dstored_ok s w hs
  have hi : ¬ (1048576 : Int) < (s.size : Int) := by omega
  go_enter Tryd.func11, Tryd.ntmps11
  go_wp2_with fail
  refine (HC.out ()).mono ?_
  rintro e w1 ⟨rfl, hb1⟩
  have H1 : Hid (Below w.heap.size w w1) := hb1
  clear hb1
  go_wp2
  go_ret2
  exact ⟨rfl, H1.out⟩
theorem Stored_long (s : ByteArray) (w : World) (hs : 1048576 < s.size) : Calls Tryd.prog 11 #[.string s] w fun e w' => e = .returned (.tuple #[.string ⟨#[]⟩, .int .i64 4]) ∧ Below w.heap.size w w' := by
  have hi : (1048576 : Int) < (s.size : Int) := by omega
  go_enter Tryd.func11, Tryd.ntmps11
  go_wp2
  go_ret2
  exact ⟨rfl, Below.refl _ _⟩
theorem Fixed_long (s : ByteArray) (w : World) (hs : 1048576 < s.size) : Calls Tryd.prog 12 #[.string s] w fun e w' => e = .returned (.tuple #[.string ⟨#[]⟩, .int .i64 4]) ∧ Below w.heap.size w w' := by
  have hi : (1048576 : Int) < (s.size : Int) := by omega
  go_enter Tryd.func12, Tryd.ntmps12
  go_wp2
  go_ret2
  exact ⟨rfl, Below.refl _ _⟩
theorem Deflate_long (s : ByteArray) (w : World) (hs : 1048576 < s.size) : Calls Tryd.prog 10 #[.string s] w fun e w' => e = .returned (.tuple #[.string ⟨#[]⟩, .int .i64 4]) ∧ Below w.heap.size w w' := by
  have hi : (1048576 : Int) < (s.size : Int) := by omega
  go_enter Tryd.func10, Tryd.ntmps10
  go_wp2
  go_ret2
  exact ⟨rfl, Below.refl _ _⟩
/-- Tokens that a call of tokensOf gave. -/
theorem tokR_own {w : World} {B : Nat} {v : Value} {T : List (Nat × Nat × Nat)} (h : w.ownsRow B 57 3 v T.length (D5.tcs T)) : ∃ ao cp, v = .slice ao T.length cp ∧ TokR w ao T := by
  rcases h.2 with ⟨rfl, h0⟩ | ⟨g, cap, cur, rfl, hB, hh, hnc, hcm, hcs, htk⟩
  · have : T = [] := List.length_eq_zero_iff.1 h0
    subst this
    exact ⟨none, 0, rfl, .inl rfl⟩
  · refine ⟨_, cap, rfl, .inr ⟨g, 0, cur, (0, 0), rfl, hh, fun i t ht j hj => ?_⟩⟩
    have h1 := D5.tcs_get T i t ht j hj
    obtain ⟨u, hu⟩ : ∃ u, (D5.tc t)[j]? = some u := ⟨(D5.tc t)[j]'(by show j < 3; exact hj), List.getElem?_eq_getElem _⟩
    rw [hu] at h1
    have h2 := h.cells (g := g) rfl (i * 3 + j) u h1
    rw [D5.add_zero_addr] at h2
    unfold World.cell? at h2
    rw [hh] at h2
    rw [hu, Nat.zero_add]
    simpa using h2
set_option maxHeartbeats 1000000 in
theorem dfixed_ok (T : List (Nat × Nat × Nat)) (ao : Option Addr) (cp : Nat) (w : World) (hT : TokR w ao T) (hTl : T.length ≤ 1048576) (hfin : ∀ t ∈ T, Fine t) : Calls Tryd.prog 17 #[.slice ao T.length cp] w fun e w' => e = .returned (.string (toBA (pack (fixedB [] T true)))) ∧ Below w.heap.size w w' := by
  obtain ⟨Z, hZ⟩ : ∃ Z, fixedB [] T true = Z := ⟨_, rfl⟩
  obtain ⟨N, hN⟩ : ∃ N, T.length = N := ⟨_, rfl⟩
  have HB := bw_start w
  have HNW : Hid (∀ _ : Unit, Calls Tryd.prog 28 #[] w fun e w' => e = .returned (.pointer (some ⟨w.heap.size, 0, none⟩)) ∧ w' = w.alloc (.cells #[.pointer (some ⟨w.heap.size, 0, none⟩), .slice none 0 0, .int .i64 0] 84)) := fun _ => newWriter w
  obtain ⟨W, hW⟩ : ∃ W, ((w.alloc (.cells #[.pointer (some ⟨w.heap.size, 0, none⟩), .slice none 0 0, .int .i64 0] 84)).alloc (.cells #[.pointer (some ⟨w.heap.size, 0, none⟩)] 63)) = W := ⟨_, rfl⟩
  have hTW : TokR W ao T := hT.below (by rw [← hW]; exact ((Below.refl _ _).alloc (Nat.le_refl _) _).alloc (by simp) _)
  obtain ⟨b, hb⟩ : ∃ b, w.heap.size = b := ⟨_, rfl⟩
  obtain ⟨U, hU⟩ : ∃ U, b + 1 = U := ⟨_, rfl⟩
  rw [hW, hb, hU] at HB
  have HBH : Hid (BW w b U [] W) := HB
  have HC : Hid (∀ _ : Unit, Calls Tryd.prog 32 #[.agg #[.pointer (some ⟨b, 0, none⟩)], .slice ao N cp, .bool true] W fun e w' => e = .returned (.tuple #[]) ∧ BW w b U Z w') := fun _ => by
    have := pfixed b [] T ao cp true W hTW hTl hfin (by simp) HB.pw
    rw [hN, hZ] at this
    exact this.mono fun e w' ⟨a1, a2, a3⟩ => ⟨a1, HB.step a2 a3⟩
  have z0 := box_cell HB.box
  rw [hZ, hN]
  have hWb := hW
  rw [hb] at hWb
  clear hZ HB hTW hT hfin hTl hN
  go_enter Tryd.func17, Tryd.ntmps17
  go_wp2_with fail
  refine (HNW.out ()).mono ?_
  rintro e w1 ⟨rfl, rfl⟩
  clear HNW
  go_wp2_with fail
  try rw [hWb]
  clear hWb hW
  refine (HC.out ()).mono ?_
  rintro e w2 ⟨rfl, hw2⟩
  have H2 : Hid (BW w b U Z w2) := hw2
  have z1 := box_cell hw2.box
  have HD : Hid (∀ _ : Unit, Calls Tryd.prog 31 #[.pointer (some ⟨b, 0, none⟩)] w2 fun e w' => e = .returned (.string (toBA (pack Z))) ∧ w' = w2) := fun _ => wdone b b Z w2 hw2.pw
  clear hw2 HC z0 HBH
  go_wp2_with fail
  refine (HD.out ()).mono ?_
  rintro e w3 ⟨rfl, rfl⟩
  go_wp2
  go_ret
  refine ⟨rfl, ?_⟩
  first | exact H2.out.bel | (rw [hb]; exact H2.out.bel)
theorem tokF_length (s : ByteArray) : ∀ f k, (D5.tokF s f k).length ≤ f
  | 0, k => by simp [D5.tokF]
  | f + 1, k => by
    unfold D5.tokF
    split
    · simp
    · split
      · simp only [List.length_cons]; have := tokF_length s f (k + 1); omega
      · simp only [List.length_cons]; have := tokF_length s f (k + (D5.copyAt s k).1); omega
theorem tells_length {s : ByteArray} : ∀ {T : List (Nat × Nat × Nat)} {k k' : Nat}, Tells s k T k' → T.length + k ≤ k'
  | [], k, k', h => by have h : k = k' := h; subst h; simp
  | t :: T, k, k', h => by
    rcases h with ⟨_, _, h2⟩ | ⟨n, d, _, h1, h2⟩
    · have := tells_length h2; simp only [List.length_cons]; omega
    · have := tells_length h2; have := h1.long; simp only [List.length_cons]; omega
theorem tokens_length (s : ByteArray) : (D5.tokensOf s).length ≤ s.size := by have := tells_length (tokens_tell s); omega
theorem tokens_fine (s : ByteArray) : ∀ t ∈ D5.tokensOf s, Fine t := (tokens_tell s).fine
set_option maxHeartbeats 1000000 in
theorem Fixed_ok (s : ByteArray) (w : World) (hs : s.size ≤ 1048576) : Calls Tryd.prog 12 #[.string s] w fun e w' => e = .returned (.tuple #[.string (toBA (pack (fixedB [] (D5.tokensOf s) true))), .int .i64 0]) ∧ Below w.heap.size w w' := by
  have HT : Hid (∀ _ : Unit, Calls Tryd.prog 15 #[.string s] w fun e w' => ∃ v, e = .returned v ∧ w'.ownsRow (w.heap.size + 3) 57 3 v (D5.tokensOf s).length (D5.tcs (D5.tokensOf s)) ∧ Below w.heap.size w w') := fun _ => D5.tokensOf_ok s w hs
  have htl := tokens_length s
  have htf := tokens_fine s
  obtain ⟨T, hT⟩ : ∃ T, D5.tokensOf s = T := ⟨_, rfl⟩
  rw [hT] at HT htl htf ⊢
  have HTF : Hid (T.length ≤ 1048576 ∧ ∀ t ∈ T, Fine t) := ⟨by omega, htf⟩
  have hi : ¬ (1048576 : Int) < (s.size : Int) := by omega
  obtain ⟨Z, hZ⟩ : ∃ Z, toBA (pack (fixedB [] T true)) = Z := ⟨_, rfl⟩
  rw [hZ]
  have HZ : Hid (toBA (pack (fixedB [] T true)) = Z) := hZ
  clear hT htl htf hZ
  go_enter Tryd.func12, Tryd.ntmps12
  go_wp2_with fail
  refine (HT.out ()).mono ?_
  rintro e w1 ⟨v, rfl, ho, hb1⟩
  obtain ⟨ao, cp, rfl, hr⟩ := tokR_own ho
  have HC : Hid (∀ _ : Unit, Calls Tryd.prog 17 #[.slice ao T.length cp] w1 fun e w' => e = .returned (.string Z) ∧ Below w1.heap.size w1 w') := fun _ => by
    have := dfixed_ok T ao cp w1 hr HTF.out.1 HTF.out.2
    rw [HZ.out] at this
    exact this
  have HB1 : Hid (Below w.heap.size w w1) := hb1
  clear ho hb1 hr HT
  go_wp2_with fail
  refine (HC.out ()).mono ?_
  rintro e w2 ⟨rfl, hb2⟩
  have HB2 : Hid (Below w.heap.size w w2) := HB1.out.trans (hb2.mono HB1.out.size)
  clear hb2 HC
  go_wp2
  go_ret2
  exact ⟨rfl, HB2.out⟩
end Go.Proofs.YtbcflkdaeboflaaDoor
namespace Go.Proofs.YtbcflkdaeboflaaDoor
open Go.RowKit
set_option linter.unusedVariables false
set_option maxRecDepth 20000

/-- A token's symbol; its distance's; the bits behind their words. -/
def symOf (t : Nat × Nat × Nat) : Nat := if t.2.2 = 0 then t.1 else (lenK t.2.1).1
def distB (t : Nat × Nat × Nat) (i : Nat) : Bool := decide (t.2.2 ≠ 0) && decide ((distK t.2.2).1 = i)
def moreOf (t : Nat × Nat × Nat) : Nat := if t.2.2 = 0 then 0 else (lenK t.2.1).2.2 + (distK t.2.2).2.2
/-- How often each comes. -/
def cntS : List (Nat × Nat × Nat) → Nat → Nat
  | [], _ => 0
  | t :: T, i => cntS T i + if symOf t = i then 1 else 0
def cntD : List (Nat × Nat × Nat) → Nat → Nat
  | [], _ => 0
  | t :: T, i => cntD T i + if distB t i = true then 1 else 0
def moreT : List (Nat × Nat × Nat) → Nat
  | [] => 0
  | t :: T => moreT T + moreOf t
theorem cntS_snoc (t : Nat × Nat × Nat) (i : Nat) : ∀ T, cntS (T ++ [t]) i = cntS T i + if symOf t = i then 1 else 0
  | [] => rfl
  | x :: T => by show cntS (T ++ [t]) i + _ = (cntS T i + _) + _; rw [cntS_snoc t i T]; omega
theorem cntD_snoc (t : Nat × Nat × Nat) (i : Nat) : ∀ T, cntD (T ++ [t]) i = cntD T i + if distB t i = true then 1 else 0
  | [] => rfl
  | x :: T => by show cntD (T ++ [t]) i + _ = (cntD T i + _) + _; rw [cntD_snoc t i T]; omega
theorem moreT_snoc (t : Nat × Nat × Nat) : ∀ T, moreT (T ++ [t]) = moreT T + moreOf t
  | [] => by simp [moreT]
  | x :: T => by show moreT (T ++ [t]) + _ = (moreT T + _) + _; rw [moreT_snoc t T]; omega
theorem cntS_le (i : Nat) : ∀ T, cntS T i ≤ T.length
  | [] => by simp [cntS]
  | t :: T => by have := cntS_le i T; simp only [cntS, List.length_cons]; split <;> omega
theorem cntD_le (i : Nat) : ∀ T, cntD T i ≤ T.length
  | [] => by simp [cntD]
  | t :: T => by have := cntD_le i T; simp only [cntD, List.length_cons]; split <;> omega
theorem moreOf_le {t : Nat × Nat × Nat} (h : Fine t) : moreOf t ≤ 18 := by
  unfold moreOf
  split
  · omega
  · rename_i h0
    rcases h with h | h
    · exact absurd h.1 h0
    · have a := (lenK_ok h.1 h.2.1).small
      have b := (distK_ok h.2.2.1 h.2.2.2).small
      omega
theorem moreT_le : ∀ {T : List (Nat × Nat × Nat)}, (∀ t ∈ T, Fine t) → moreT T ≤ 18 * T.length
  | [], _ => by simp [moreT]
  | t :: T, h => by
    have a := moreOf_le (h t (List.mem_cons_self ..))
    have b := moreT_le (T := T) (fun x hx => h x (List.mem_cons_of_mem _ hx))
    simp only [moreT, List.length_cons]; omega
theorem symOf_lt {t : Nat × Nat × Nat} (h : Fine t) : symOf t < 286 := by
  unfold symOf
  split
  · rename_i h0
    rcases h with h | h
    · omega
    · have := h.2.2.1; omega
  · rename_i h0
    rcases h with h | h
    · exact absurd h.1 h0
    · exact (lenK_ok h.1 h.2.1).small.2.1
/-- Counts in memory: two rows and a number in a struct. -/
structure CN (w0 w : World) (U X g1 g2 : Nat) (f1 f2 : Nat → Nat) (m : Nat) : Prop where
  res : w.heap[U]? = some (.cells #[.slice none 0 0, .slice none 0 0, .int .i64 0] 86 (0, 0))
  by_ : w.heap[X]? = some (.cells #[.slice (some ⟨g1, 0, none⟩) 288 288, .slice (some ⟨g2, 0, none⟩) 30 30, .int .i64 (m : Nat)] 86 (0, 0))
  r1 : LB w g1 288 f1
  r2 : LB w g2 30 f2
  ne : g1 ≠ g2
  neX : U ≠ X
  l1 : U ≤ g1
  l2 : U ≤ g2
  lX : U ≤ X
  bel : Below U w0 w
variable {w0 w w' : World} {U X g1 g2 : Nat} {f1 f2 : Nat → Nat} {m : Nat}
theorem CN.quiet (h : CN w0 w U X g1 g2 f1 f2 m) (hb : Below w.heap.size w w') : CN w0 w' U X g1 g2 f1 f2 m :=
  ⟨(hb.block _ (lt_of_block h.res)).trans h.res, (hb.block _ (lt_of_block h.by_)).trans h.by_, h.r1.below hb, h.r2.below hb, h.ne, h.neX, h.l1, h.l2, h.lX, h.bel.trans (hb.mono (by have := lt_of_block h.res; omega))⟩
theorem CN.apart (h : CN w0 w U X g1 g2 f1 f2 m) : U ≠ g1 ∧ U ≠ g2 ∧ X ≠ g1 ∧ X ≠ g2 := by
  have h1 := h.r1
  have h2 := h.r2
  unfold LB at h1 h2
  refine ⟨?_, ?_, ?_, ?_⟩
  · rintro rfl; rw [h.res] at h1; simp at h1
  · rintro rfl; rw [h.res] at h2; simp at h2
  · rintro rfl; rw [h.by_] at h1; simp at h1
  · rintro rfl; rw [h.by_] at h2; simp at h2
theorem CN.cells (h : CN w0 w U X g1 g2 f1 f2 m) : w.cell? ⟨X, 0, none⟩ = some (.slice (some ⟨g1, 0, none⟩) 288 288) ∧ w.cell? ⟨X, 1, none⟩ = some (.slice (some ⟨g2, 0, none⟩) 30 30) ∧ w.cell? ⟨X, 2, none⟩ = some (.int .i64 (m : Nat)) ∧ w.frozen? ⟨X, 2, none⟩ = false := by
  have := h.by_
  exact ⟨by simp [World.cell?, this], by simp [World.cell?, this], by simp [World.cell?, this], by simp [World.frozen?, this]⟩
theorem CN.up1 (h : CN w0 w U X g1 g2 f1 f2 m) (k x : Nat) : CN w0 (w.setCell ⟨g1, k, none⟩ (.int .i64 (x : Nat))) U X g1 g2 (fun i => if i = k then x else f1 i) f2 m := by
  obtain ⟨a1, a2, a3, a4⟩ := h.apart
  refine ⟨?_, ?_, h.r1.set k x, ?_, h.ne, h.neX, h.l1, h.l2, h.lX, h.bel.trans (D5.Below.setCell' _ _ h.l1)⟩
  · rw [Below.heap_setCell _ _ _ _ (by exact a1)]; exact h.res
  · rw [Below.heap_setCell _ _ _ _ (by exact a3)]; exact h.by_
  · unfold LB; rw [Below.heap_setCell _ _ _ _ (by exact h.ne.symm)]; exact h.r2
theorem CN.up2 (h : CN w0 w U X g1 g2 f1 f2 m) (k x : Nat) : CN w0 (w.setCell ⟨g2, k, none⟩ (.int .i64 (x : Nat))) U X g1 g2 f1 (fun i => if i = k then x else f2 i) m := by
  obtain ⟨a1, a2, a3, a4⟩ := h.apart
  refine ⟨?_, ?_, ?_, h.r2.set k x, h.ne, h.neX, h.l1, h.l2, h.lX, h.bel.trans (D5.Below.setCell' _ _ h.l2)⟩
  · rw [Below.heap_setCell _ _ _ _ (by exact a2)]; exact h.res
  · rw [Below.heap_setCell _ _ _ _ (by exact a4)]; exact h.by_
  · unfold LB; rw [Below.heap_setCell _ _ _ _ (by exact h.ne)]; exact h.r1
theorem CN.upM (h : CN w0 w U X g1 g2 f1 f2 m) (x : Nat) : CN w0 (w.setCell ⟨X, 2, none⟩ (.int .i64 (x : Nat))) U X g1 g2 f1 f2 x := by
  obtain ⟨a1, a2, a3, a4⟩ := h.apart
  refine ⟨?_, D5.block_setCell (i := 2) h.by_, ?_, ?_, h.ne, h.neX, h.l1, h.l2, h.lX, h.bel.trans (D5.Below.setCell' _ _ h.lX)⟩
  · rw [Below.heap_setCell _ _ _ _ (by exact h.neX)]; exact h.res
  · unfold LB; rw [Below.heap_setCell _ _ _ _ (by exact a3.symm)]; exact h.r1
  · unfold LB; rw [Below.heap_setCell _ _ _ _ (by exact a4.symm)]; exact h.r2
theorem CN.congr {d1 d2 : Nat → Nat} (h : CN w0 w U X g1 g2 f1 f2 m) (e1 : ∀ i, i < 288 → f1 i = d1 i) (e2 : ∀ i, i < 30 → f2 i = d2 i) : CN w0 w U X g1 g2 d1 d2 m :=
  ⟨h.res, h.by_, h.r1.congr e1, h.r2.congr e2, h.ne, h.neX, h.l1, h.l2, h.lX, h.bel⟩
theorem CN.done (h : CN w0 w U X g1 g2 f1 f2 m) (a b c : Value) : LB (((w.setCell ⟨U, 0, none⟩ a).setCell ⟨U, 1, none⟩ b).setCell ⟨U, 2, none⟩ c) g1 288 f1 ∧ LB (((w.setCell ⟨U, 0, none⟩ a).setCell ⟨U, 1, none⟩ b).setCell ⟨U, 2, none⟩ c) g2 30 f2 ∧ Below U w0 (((w.setCell ⟨U, 0, none⟩ a).setCell ⟨U, 1, none⟩ b).setCell ⟨U, 2, none⟩ c) ∧ (((w.setCell ⟨U, 0, none⟩ a).setCell ⟨U, 1, none⟩ b).setCell ⟨U, 2, none⟩ c).heap[U]? = some (.cells #[a, b, c] 86 (0, 0)) := by
  obtain ⟨a1, a2, a3, a4⟩ := h.apart
  refine ⟨?_, ?_, ((h.bel.trans (D5.Below.setCell' _ _ (Nat.le_refl _))).trans (D5.Below.setCell' _ _ (Nat.le_refl _))).trans (D5.Below.setCell' _ _ (Nat.le_refl _)), D5.block_setCell (i := 2) (D5.block_setCell (i := 1) (D5.block_setCell (i := 0) h.res))⟩
  · unfold LB; rw [Below.heap_setCell _ _ _ _ (by exact a1.symm), Below.heap_setCell _ _ _ _ (by exact a1.symm), Below.heap_setCell _ _ _ _ (by exact a1.symm)]; exact h.r1
  · unfold LB; rw [Below.heap_setCell _ _ _ _ (by exact a2.symm), Below.heap_setCell _ _ _ _ (by exact a2.symm), Below.heap_setCell _ _ _ _ (by exact a2.symm)]; exact h.r2
theorem counts_ret {fn : Func} {p : Tmp} {W : World} {U : Nat} {a b c : Value} {tmps : Array Value} (ha : a.oneCell' = true) (hb : b.oneCell' = true) (hc : c.oneCell' = true) (hr : fn.results = #[.cell p 86]) (hp : tmps.getD p undef = .pointer (some ⟨U, 0, none⟩)) (hbk : W.heap[U]? = some (.cells #[a, b, c] 86 (0, 0))) : (results fn tmps).run Tryd.prog W = .ok (.agg #[a, b, c]) W := by
  have x0 : W.cell? ⟨U, 0, none⟩ = some a := by simp [World.cell?, hbk]
  have x1 : W.cell? ⟨U, 1, none⟩ = some b := by simp [World.cell?, hbk]
  have x2 : W.cell? ⟨U, 2, none⟩ = some c := by simp [World.cell?, hbk]
  rw [D5.results_cell hr, hp]
  go_simp
def PieB (w : World) (b : Nat) (p : Nat × Nat × Nat) : Prop := w.heap[b]? = some (.cells #[.int .i64 (p.1 : Nat), .int .i64 (p.2.1 : Nat), .int .i64 (p.2.2 : Nat)] 113 (0, 0))
end Go.Proofs.YtbcflkdaeboflaaDoor
namespace Go.Proofs.YtbcflkdaeboflaaDoor
open Go.RowKit
set_option linter.unusedVariables false
set_option maxRecDepth 20000

def plainN : List (Nat × Nat × Nat) → Nat
  | [] => 0
  | t :: T => plainN T + max 1 t.2.1
theorem plainN_snoc (t : Nat × Nat × Nat) : ∀ T, plainN (T ++ [t]) = plainN T + max 1 t.2.1
  | [] => by simp [plainN]
  | x :: T => by show plainN (T ++ [t]) + _ = (plainN T + _) + _; rw [plainN_snoc t T]; omega
theorem Tells.plain {s : ByteArray} : ∀ {T : List (Nat × Nat × Nat)} {k k' : Nat}, Tells s k T k' → k + plainN T = k'
  | [], k, k', h => by have h : k = k' := h; subst h; rfl
  | t :: T, k, k', h => by
    rcases h with ⟨rfl, _, h2⟩ | ⟨n, d, rfl, h1, h2⟩
    · have := h2.plain; simp only [plainN]; omega
    · have := h2.plain; have := h1.long; simp only [plainN]; omega
theorem plainN_le {t : Nat × Nat × Nat} : ∀ {T : List (Nat × Nat × Nat)}, (∀ t ∈ T, t.2.1 ≤ 258) → plainN T ≤ 258 * T.length
  | [], _ => by simp [plainN]
  | t :: T, h => by
    have a := h t (List.mem_cons_self ..)
    have b := plainN_le (t := t) (T := T) (fun x hx => h x (List.mem_cons_of_mem _ hx))
    simp only [plainN, List.length_cons]; omega
theorem pl_nums {m n i N : Nat} (h1 : m ≤ 258 * i) (h2 : n ≤ 258) (h3 : i < N) (h4 : N ≤ 1048576) : ∃ q m2 : Nat, max 1 n = q ∧ m + q = m2 ∧ max 1 (n : Int) = (q : Int) ∧ (m : Int) + (q : Int) = (m2 : Int) ∧ IntKind.i64.wrap (m2 : Int) = (m2 : Int) ∧ wrap64 (n : Int) = (n : Int) ∧ m2 ≤ 300000000 :=
  ⟨max 1 n, m + max 1 n, rfl, rfl, by omega, by omega, D5.wrapN _ (by omega), D5.wrapN64 _ (by omega), by omega⟩
theorem sc_nums {p S : Nat} (hp : p ≤ 1099511627776) (hS : S ≤ 1048576) : ∃ p3 p11 p10 q q8 r r2 S8 c : Nat, (p : Int) + 3 = (p3 : Int) ∧ IntKind.i64.wrap (p3 : Int) = (p3 : Int) ∧ (p3 : Int) + 8 = (p11 : Int) ∧ IntKind.i64.wrap (p11 : Int) = (p11 : Int) ∧ (p11 : Int) - 1 = (p10 : Int) ∧ IntKind.i64.wrap (p10 : Int) = (p10 : Int) ∧ (p10 : Int) / 8 = (q : Int) ∧ (p10 : Int).tdiv 8 = (q : Int) ∧ IntKind.i64.wrap (q : Int) = (q : Int) ∧ (q : Int) * 8 = (q8 : Int) ∧ IntKind.i64.wrap (q8 : Int) = (q8 : Int) ∧ (q8 : Int) - (p : Int) = (r : Int) ∧ IntKind.i64.wrap (r : Int) = (r : Int) ∧ (r : Int) + 32 = (r2 : Int) ∧ IntKind.i64.wrap (r2 : Int) = (r2 : Int) ∧ (S : Int) * 8 = (S8 : Int) ∧ IntKind.i64.wrap (S8 : Int) = (S8 : Int) ∧ (r2 : Int) + (S8 : Int) = (c : Int) ∧ IntKind.i64.wrap (c : Int) = (c : Int) ∧ 8 * S + 32 ≤ c ∧ c ≤ 8 * S + 50 :=
  ⟨p + 3, p + 11, p + 10, (p + 10) / 8, (p + 10) / 8 * 8, (p + 10) / 8 * 8 - p, (p + 10) / 8 * 8 - p + 32, S * 8, (p + 10) / 8 * 8 - p + 32 + S * 8, by omega, D5.wrapN _ (by omega), by omega, D5.wrapN _ (by omega), by omega, D5.wrapN _ (by omega), by omega, by rw [Int.tdiv_eq_ediv_of_nonneg (by omega)]; omega, D5.wrapN _ (by omega), by omega, D5.wrapN _ (by omega), by omega, D5.wrapN _ (by omega), by omega, D5.wrapN _ (by omega), by omega, D5.wrapN _ (by omega), by omega, D5.wrapN _ (by omega), by omega, by omega⟩
set_option maxHeartbeats 1000000 in
theorem plainBytes_ok (T : List (Nat × Nat × Nat)) (ao : Option Addr) (cp : Nat) (w : World) (hT : TokR w ao T) (hTl : T.length ≤ 1048576) (hfin : ∀ t ∈ T, t.2.1 ≤ 258) : Calls Tryd.prog 29 #[.slice ao T.length cp] w fun e w' => e = .returned (.int .i64 (plainN T : Nat)) ∧ Below w.heap.size w w' := by
  obtain ⟨N, hN⟩ : ∃ N, T.length = N := ⟨_, rfl⟩
  obtain ⟨P, hP⟩ : ∃ P, plainN T = P := ⟨_, rfl⟩
  have HALL : Hid ((∀ t ∈ T, t.2.1 ≤ 258) ∧ T.length ≤ 1048576 ∧ T.length = N ∧ TokR w ao T ∧ plainN T = P) := ⟨hfin, hTl, hN, hT, hP⟩
  have hNb : N ≤ 1048576 := by omega
  rw [hN, hP]
  clear hfin hTl hN hT hP
  go_enter Tryd.func29, Tryd.ntmps29
  go_wp2_with fail
  go_loopw [3, 8] (fun v3 v8 wr => ∃ i m : Nat, v3 = .int .i64 (m : Nat) ∧ v8 = .int .i64 (i : Nat) ∧ i ≤ N ∧ m ≤ 300000000 ∧ Hid (plainN (T.take i) = m ∧ Below w.heap.size w wr)) (fun _ v8 _ => N - (intOf v8).toNat)
  case atStart => exact ⟨0, 0, rfl, rfl, Nat.zero_le _, by omega, by rw [List.take_zero]; exact ⟨rfl, Below.refl _ _⟩⟩
  case round =>
    obtain ⟨i, m, rfl, rfl, hi, hm, HR⟩ := hrel
    by_cases hlt : i < N
    · have hlti : (i : Int) < (N : Int) := by omega
      obtain ⟨hfin, hTl, hN, hT, hP⟩ := HALL.out
      have hiT : i < T.length := by omega
      obtain ⟨t, ht⟩ : ∃ t, T[i]? = some t := ⟨T[i], List.getElem?_eq_getElem hiT⟩
      have hft := hfin t (List.mem_of_getElem? ht)
      have htake : T.take (i + 1) = T.take i ++ [t] := by rw [List.take_add_one, ht]; rfl
      have hmb : m ≤ 258 * i := by
        rw [← HR.out.1]
        have := plainN_le (t := t) (T := T.take i) (fun x hx => hfin x (List.mem_of_mem_take hx))
        rw [List.length_take] at this
        omega
      obtain ⟨g, off, hao, y0, y1, y2⟩ := (hT.below HR.out.2).at ht
      obtain ⟨x, n, dd⟩ := t
      simp only at y0 y1 y2 hft
      obtain ⟨q, m2, hq, hm2, hqi, hm2i, hm2w, hnw, hm2b⟩ := pl_nums hmb hft hlt hNb
      have HZ : Hid (plainN (T.take (i + 1)) = m2 ∧ Below w.heap.size w (wr.alloc (.cells #[.int .u8 (x : Nat), .int .u16 (n : Nat), .int .u16 (dd : Nat)] 57)) ∧ m2 ≤ 300000000) := ⟨by rw [htake, plainN_snoc, HR.out.1]; show m + max 1 n = m2; rw [hq, hm2], HR.out.2.alloc HR.out.2.size _, hm2b⟩
      subst hao
      clear hiT htake hft ht hfin hTl hN hT hP hmb hq hm2 hm2b HR
      go_wp2
      exact ⟨⟨i + 1, m2, rfl, by go_num, by omega, HZ.out.2.2, HZ.out.1, HZ.out.2.1⟩, by simp [intOf]; omega⟩
    · obtain rfl : i = N := by omega
      have hlti : ¬ (i : Int) < (i : Int) := by omega
      have HE : Hid (P = m ∧ Below w.heap.size w wr) := by
        have := HR.out
        rw [← HALL.out.2.2.1, List.take_length, HALL.out.2.2.2.2] at this
        exact this
      go_wp2
      go_ret
      rw [HE.out.1]
      exact ⟨rfl, HE.out.2⟩
set_option maxHeartbeats 1000000 in
theorem storedCost_ok (b : Nat) (L : List Nat) (s : ByteArray) (w : World) (hs : s.size ≤ 1048576) (hL : L.length ≤ 1099511627776) (hw : PW w b L) :
    Calls Tryd.prog 48 #[pkV b, .string s] w fun e w' => (∃ c : Nat, e = .returned (.int .i64 (c : Nat)) ∧ 8 * s.size + 32 ≤ c ∧ c ≤ 8 * s.size + 50) ∧ Below w.heap.size w w' := by
  obtain ⟨W, hW⟩ : ∃ W, w.alloc (.cells #[.pointer (some ⟨b, 0, none⟩)] 63) = W := ⟨_, rfl⟩
  have hbel : Below w.heap.size w W := by rw [← hW]; exact (Below.refl _ _).alloc (Nat.le_refl _) _
  obtain ⟨U, hU⟩ : ∃ U, w.heap.size = U := ⟨_, rfl⟩
  have hb0 : W.heap[U]? = some (.cells #[.pointer (some ⟨b, 0, none⟩)] 63 (0, 0)) := by rw [← hW, ← hU]; exact heap_alloc_new _ _
  have hPW := WS.below hw hbel
  obtain ⟨p, hp⟩ : ∃ p, L.length = p := ⟨_, rfl⟩
  have hpl := hPW.place
  rw [hp] at hpl
  have HC : Hid (∀ _ : Unit, Calls Tryd.prog 68 #[.pointer (some ⟨b, 0, none⟩)] W fun e w' => e = .returned (.int .i64 (p : Nat)) ∧ w' = W) := fun _ => wplace b p W hPW.self hpl
  have z0 := box_cell hb0
  have HB : Hid (Below w.heap.size w W) := hbel
  obtain ⟨S, hS⟩ : ∃ S, s.size = S := ⟨_, rfl⟩
  obtain ⟨p3, p11, p10, q, q8, r, r2, S8, c, e1, f1, e2, f2, e3, f3, e4, e4t, f4, e5, f5, e6, f6, e7, f7, e8, f8, e9, f9, hc1, hc2⟩ := sc_nums (p := p) (S := S) (by omega) (by omega)
  have HFIN : Hid (8 * s.size + 32 ≤ c ∧ c ≤ 8 * s.size + 50) := by rw [hS]; exact ⟨hc1, hc2⟩
  clear hc1 hc2 hp hL hs
  unfold pkV
  clear hbel hb0 hPW hpl hw
  go_enter Tryd.func48, Tryd.ntmps48
  go_wp2_with fail
  refine (HC.out ()).mono ?_
  rintro e w1 ⟨rfl, rfl⟩
  clear HC z0
  go_wp2
  go_ret
  exact ⟨⟨c, rfl, HFIN.out⟩, HB.out⟩
end Go.Proofs.YtbcflkdaeboflaaDoor
