/- Layer 7: the document's answer: whatever head; what the pieces say of a round. -/
/- Layer 7: the document's Unpack of whatever bytes. -/
import Derived.Test.YtbncfpbehahidaaGm1
import Derived.Test.YtbncfpbehahidaaGl3
namespace Go.Proofs.Ytbncfpbehahidaa
open Go.RowKit
set_option linter.unusedVariables false
set_option maxRecDepth 20000

theorem toBA_append (l m : List Nat) : toBA (l ++ m) = toBA l ++ toBA m := by
  apply ByteArray.ext
  simp [toBA]
theorem bad_is {S : ByteArray} {w : World} {E most : Nat} (h : BadHead S w E) (hq : (turnF headP (d0 S most)).1 = E) (hE : E ≠ 0) :
    Calls Try.prog 23 #[.string S] w fun e w' => e = .returned (bgR (turnF headP (d0 S most))) ∧ Below w.heap.size w w' := by
  rw [bgR_bad hq hE]
  exact h
/-- The document's begins of whatever bytes. -/
theorem begins_ok (S : ByteArray) (most : Nat) (w : World) (hS : S.size ≤ 140737488351232) :
    Calls Try.prog 23 #[.string S] w fun e w' => e = .returned (bgR (turnF headP (d0 S most))) ∧ Below w.heap.size w w' := by
  obtain ⟨b1, b2, b3, b4, b5, b6⟩ := head_bad S most
  by_cases h4 : S.size < 4
  · exact bad_is (begins_A S w h4) (b1 h4) (by decide)
  have h4' : 4 ≤ S.size := by omega
  by_cases hb : (S.extract 0 4).toList = [4, 34, 77, 24]
  case neg => exact bad_is (begins_B S w h4' hb) (b2 h4' hb) (by decide)
  by_cases h5 : S.size < 5
  · exact bad_is (begins_C S w h4' hb h5) (b3 h4' hb h5) (by decide)
  have h5' : 5 ≤ S.size := by omega
  by_cases hg : bt S 4 / 32 = 3
  case neg => exact bad_is (begins_D S w h4' hb h5' hg) (b4 h5' hb (fun h => hg h.1)) (by decide)
  by_cases hg4 : bt S 4 % 4 = 0
  case neg => exact bad_is (begins_D2 S w h4' hb h5' hg hg4) (b4 h5' hb (fun h => hg4 h.2)) (by decide)
  by_cases h6 : S.size < 6
  · exact bad_is (begins_E S w h4' hb h5' hg hg4 h6) (b5 h5' hb ⟨hg, hg4⟩ h6) (by decide)
  have h6' : 6 ≤ S.size := by omega
  by_cases hd0 : bt S 5 % 16 = 0
  case neg => exact bad_is (begins_F1 S w h4' hb h5' hg hg4 h6' hd0) (b6 h6' hb ⟨hg, hg4⟩ (fun h => hd0 h.1)) (by decide)
  by_cases hy4 : bt S 5 / 16 < 4
  · exact bad_is (begins_F2 S w h4' hb h5' hg hg4 h6' hd0 hy4) (b6 h6' hb ⟨hg, hg4⟩ (fun h => by omega)) (by decide)
  by_cases hy7 : 7 < bt S 5 / 16
  · exact bad_is (begins_F3 S w h4' hb h5' hg hg4 h6' hd0 hy7) (b6 h6' hb ⟨hg, hg4⟩ (fun h => by omega)) (by decide)
  exact begins_good S most w hS h6' hb hg hg4 hd0 (by omega) (by omega)
/-- The state behind a good head. -/
theorem head_shape (S : ByteArray) (most : Nat) (h : (turnF headP (d0 S most)).1 = 0) : ∃ P f M sz, (turnF headP (d0 S most)).2 = ⟨S, P, most, f, M, sz, 0, ⟨#[]⟩, []⟩ ∧ P ≤ S.size ∧ M ≤ 4194304 ∧ 65536 ≤ M ∧ sz ≤ 4611686018427387904 := by
  obtain ⟨b1, b2, b3, b4, b5, b6⟩ := head_bad S most
  have h4 : 4 ≤ S.size := Nat.le_of_not_lt fun hc => by rw [b1 hc] at h; cases h
  have hb : (S.extract 0 4).toList = [4, 34, 77, 24] := Classical.byContradiction fun hc => by rw [b2 h4 hc] at h; cases h
  have h5 : 5 ≤ S.size := Nat.le_of_not_lt fun hc => by rw [b3 h4 hb hc] at h; cases h
  have hg : bt S 4 / 32 = 3 ∧ bt S 4 % 4 = 0 := Classical.byContradiction fun hc => by rw [b4 h5 hb hc] at h; cases h
  have h6 : 6 ≤ S.size := Nat.le_of_not_lt fun hc => by rw [b5 h5 hb hg hc] at h; cases h
  have hd : bt S 5 % 16 = 0 ∧ 4 ≤ bt S 5 / 16 ∧ bt S 5 / 16 ≤ 7 := Classical.byContradiction fun hc => by rw [b6 h6 hb hg hc] at h; cases h
  have hq := head_good S most h6 hb hg hd
  rw [hq] at h ⊢
  obtain ⟨y, hy⟩ : ∃ y, bt S 5 / 16 = y := ⟨_, rfl⟩
  rw [hy] at h hd ⊢
  have hM : 2 ^ (8 + 2 * y) ≤ 4194304 ∧ 65536 ≤ 2 ^ (8 + 2 * y) := by
    rcases (show y = 4 ∨ y = 5 ∨ y = 6 ∨ y = 7 by omega) with rfl | rfl | rfl | rfl <;> decide
  obtain ⟨M, hMM⟩ : ∃ M, 2 ^ (8 + 2 * y) = M := ⟨_, rfl⟩
  rw [hMM] at h hM ⊢
  have key : ∀ d : FD, (turnF [(19, fun d => 4 ≤ d.pos, gHs)] d).1 = 0 → (turnF [(19, fun d => 4 ≤ d.pos, gHs)] d).2 = { d with pos := d.pos + 1 } ∧ d.pos + 1 ≤ d.s.size := fun d hd => by
    rw [turn_one] at hd ⊢
    have hd' : (gHs d).1 = 0 := hd
    show (gHs d).2 = _ ∧ _
    unfold gHs at hd' ⊢
    by_cases c1 : d.s.size < d.pos + 1
    · rw [if_pos c1] at hd'; cases hd'
    · rw [if_neg c1] at hd' ⊢
      by_cases c2 : bt d.s d.pos = hsum (d.s.extract 4 d.pos) / 256 % 256
      · rw [if_pos c2]; exact ⟨rfl, by omega⟩
      · rw [if_neg c2] at hd'; cases hd'
  by_cases h3 : bt S 4 / 8 % 2 = 1
  · by_cases h14 : S.size < 6 + 8
    · have e : gSz ⟨S, 6, most, bt S 4, M, 0, 0, ⟨#[]⟩, []⟩ = (5, ⟨S, 6, most, bt S 4, M, 0, 0, ⟨#[]⟩, []⟩) := by unfold gSz; rw [if_pos h3, if_pos h14]
      rw [turn_bad _ _ _ _ _ e (by decide)] at h; cases h
    · by_cases hn : nF S 6 8 ≤ 4611686018427387904
      · have e : gSz ⟨S, 6, most, bt S 4, M, 0, 0, ⟨#[]⟩, []⟩ = (0, ⟨S, 14, most, bt S 4, M, nF S 6 8, 0, ⟨#[]⟩, []⟩) := by unfold gSz; rw [if_pos h3, if_neg h14, if_pos hn]
        rw [turn_cons _ _ _ _ e] at h ⊢
        obtain ⟨k1, k2⟩ := key _ h
        exact ⟨15, bt S 4, M, nF S 6 8, k1, k2, hM.1, hM.2, hn⟩
      · have e : gSz ⟨S, 6, most, bt S 4, M, 0, 0, ⟨#[]⟩, []⟩ = (70, ⟨S, 14, most, bt S 4, M, 0, 0, ⟨#[]⟩, []⟩) := by unfold gSz; rw [if_pos h3, if_neg h14, if_neg hn]
        rw [turn_bad _ _ _ _ _ e (by decide)] at h; cases h
  · have e : gSz ⟨S, 6, most, bt S 4, M, 0, 0, ⟨#[]⟩, []⟩ = (0, ⟨S, 6, most, bt S 4, M, 0, 0, ⟨#[]⟩, []⟩) := by unfold gSz; rw [if_neg h3]
    rw [turn_cons _ _ _ _ e] at h ⊢
    obtain ⟨k1, k2⟩ := key _ h
    exact ⟨7, bt S 4, M, 0, k1, k2, hM.1, hM.2, by omega⟩
theorem turn_more : ∀ (ps qs : List Piece) (d : FD), turnF (ps ++ qs) d = if (turnF ps d).1 = 0 then turnF qs (turnF ps d).2 else turnF ps d
  | [], qs, d => by rw [List.nil_append]; rfl
  | p :: ps, qs, d => by
    have e : ∀ L : List Piece, turnF (p :: L) d = if (p.2.2 d).1 = 0 then turnF L (p.2.2 d).2 else p.2.2 d := fun _ => rfl
    rw [List.cons_append, e, e]
    by_cases h : (p.2.2 d).1 = 0
    · rw [if_pos h, if_pos h]; exact turn_more ps qs (p.2.2 d).2
    · rw [if_neg h, if_neg h, if_neg h]
theorem eight_app : eight = headP ++ tail3 := rfl
theorem eight_is (S : ByteArray) (most : Nat) : turnF eight (d0 S most) = if (turnF headP (d0 S most)).1 = 0 then turnF tail3 (turnF headP (d0 S most)).2 else turnF headP (d0 S most) := by
  rw [eight_app]
  exact turn_more headP tail3 _
theorem fin_head {S : ByteArray} {most E : Nat} (h : (turnF headP (d0 S most)).1 = E) (hE : E ≠ 0) : frR (unpackF S most) = .tuple #[.string ⟨#[]⟩, .int .i64 0, .int .i64 (E : Nat)] := by
  have e := eight_is S most
  rw [if_neg (by rw [h]; exact hE)] at e
  unfold unpackF
  rw [e, if_neg (by rw [h]; exact hE), h]
  rfl
theorem fin_bad {S : ByteArray} {most E : Nat} {q : FD} (h0 : (turnF headP (d0 S most)).1 = 0) (hq : (turnF headP (d0 S most)).2 = q) (h : (turnF tail3 q).1 = E) (hE : E ≠ 0) : frR (unpackF S most) = .tuple #[.string ⟨#[]⟩, .int .i64 0, .int .i64 (E : Nat)] := by
  have e := eight_is S most
  rw [if_pos h0, hq] at e
  unfold unpackF
  rw [e, if_neg (by rw [h]; exact hE), h]
  rfl
theorem fin_good {S : ByteArray} {most : Nat} {q d : FD} (h0 : (turnF headP (d0 S most)).1 = 0) (hq : (turnF headP (d0 S most)).2 = q) (h : turnF tail3 q = (0, d)) : frR (unpackF S most) = .tuple #[.string (toBA d.plain), .int .i64 (d.pos : Nat), .int .i64 0] := by
  have e := eight_is S most
  rw [if_pos h0, hq, h] at e
  unfold unpackF
  rw [e, if_pos rfl]
  rfl
theorem t3_bad {q : FD} {E : Nat} (h : (gBlocks q).1 = E) (hE : E ≠ 0) : (turnF tail3 q).1 = E := by
  unfold tail3
  rw [turn_fail _ _ _ (by show (gBlocks q).1 ≠ 0; rw [h]; exact hE)]
  exact h
theorem t3_size {q d : FD} (h : gBlocks q = (0, d)) (hs : d.flags / 8 % 2 = 1 ∧ d.size ≠ d.plain.length) : (turnF tail3 q).1 = 70 := by
  have e : gSize d = (70, d) := by unfold gSize; rw [if_pos hs]
  unfold tail3
  rw [turn_cons _ _ _ _ (by show gBlocks q = _; exact h)]
  exact turn_bad _ _ _ _ _ e (by decide)
theorem t3_all {q d : FD} (h : gBlocks q = (0, d)) (hs : ¬ (d.flags / 8 % 2 = 1 ∧ d.size ≠ d.plain.length)) : turnF tail3 q = gAll d := by
  have e : gSize d = (0, d) := by unfold gSize; rw [if_neg hs]
  unfold tail3
  rw [turn_cons _ _ _ _ (by show gBlocks q = _; exact h), turn_cons _ _ _ _ e, turn_one]
theorem sumE_le (S : ByteArray) (a : Nat) (t : ByteArray) : sumE S a t = 0 ∨ sumE S a t = 5 ∨ sumE S a t = 71 := by
  unfold sumE; split
  · exact .inr (.inl rfl)
  · split
    · exact .inl rfl
    · exact .inr (.inr rfl)
theorem gSum_is (t : ByteArray) (d : FD) : (gSum t d).1 = sumE d.s d.pos t ∧ (sumE d.s d.pos t = 0 → gSum t d = (0, { d with pos := d.pos + 4 }) ∧ d.pos + 4 ≤ d.s.size) := by
  unfold gSum sumE
  by_cases h1 : d.s.size < d.pos + 4
  · rw [if_pos h1, if_pos h1]; exact ⟨rfl, fun h => by cases h⟩
  · rw [if_neg h1, if_neg h1]
    by_cases h2 : nF d.s d.pos 4 = hsum t
    · rw [if_pos h2, if_pos h2]; exact ⟨rfl, fun _ => ⟨rfl, by omega⟩⟩
    · rw [if_neg h2, if_neg h2]; exact ⟨rfl, fun h => by cases h⟩
end Go.Proofs.Ytbncfpbehahidaa
namespace Go.Proofs.Ytbncfpbehahidaa
open Go.RowKit
set_option linter.unusedVariables false
set_option maxRecDepth 20000

/-- What stands between two blocks. -/
def RdSt (S : ByteArray) (most f M sz : Nat) (G : Nat × FD) (a : Nat) (out : ByteArray) : Prop :=
  ∃ k d, d.s = S ∧ d.pos = a ∧ d.most = most ∧ d.flags = f ∧ d.bm = M ∧ d.size = sz ∧ toBA d.plain = out ∧ d.plain.length ≤ most ∧ a ≤ S.size ∧ S.size - a < k ∧ goB k d = G
theorem three {S : ByteArray} {most f M sz : Nat} {G : Nat × FD} {a : Nat} {out : ByteArray} (h : RdSt S most f M sz G a out) : out.size ≤ most ∧ a ≤ S.size := by
  obtain ⟨k, d, h1, h2, h3, h4, h5, h6, h7, h8, h9, _⟩ := h
  rw [← h7, toBA_size]; exact ⟨h8, h9⟩
/-- A number that can't be read. -/
theorem rd_short {S : ByteArray} {most f M sz : Nat} {G : Nat × FD} {a : Nat} {out : ByteArray} (h : RdSt S most f M sz G a out) (hs : S.size < a + 4) : G.1 = 5 := by
  obtain ⟨k, d, h1, h2, h3, h4, h5, h6, h7, h8, h9, h10, h11⟩ := h
  obtain ⟨k, rfl⟩ : ∃ j, k = j + 1 := ⟨k - 1, by omega⟩
  have hb := bn_short d (by rw [h1, h2]; exact hs)
  rw [← h11, goB_bad k d (by rw [hb]; decide), hb]
theorem rd_bad {S : ByteArray} {most f M sz : Nat} {G : Nat × FD} {a : Nat} {out : ByteArray} (h : RdSt S most f M sz G a out) (hs : a + 4 ≤ S.size) (hN : nF S a 4 = 2147483648 ∨ M < nF S a 4 % 2147483648) : G.1 = 70 := by
  obtain ⟨k, d, h1, h2, h3, h4, h5, h6, h7, h8, h9, h10, h11⟩ := h
  obtain ⟨k, rfl⟩ : ∃ j, k = j + 1 := ⟨k - 1, by omega⟩
  have hb := bn_bad d (nF S a 4) (by rw [h1, h2]; exact hs) (by rw [h1, h2]) (by rw [h5]; exact hN)
  rw [← h11, goB_bad k d (by rw [hb]; decide), hb]
theorem rd_end {S : ByteArray} {most f M sz : Nat} {G : Nat × FD} {a : Nat} {out : ByteArray} (h : RdSt S most f M sz G a out) (hs : a + 4 ≤ S.size) (hN : nF S a 4 = 0) :
    ∃ d, G = (0, d) ∧ d.s = S ∧ d.pos = a + 4 ∧ d.flags = f ∧ d.size = sz ∧ toBA d.plain = out ∧ d.plain.length ≤ most := by
  obtain ⟨k, d, h1, h2, h3, h4, h5, h6, h7, h8, h9, h10, h11⟩ := h
  obtain ⟨k, rfl⟩ : ∃ j, k = j + 1 := ⟨k - 1, by omega⟩
  have hb := bn_eq d 0 (by rw [h1, h2]; exact hs) (by rw [h1, h2]; exact hN) (by rw [h5]; omega)
  rw [goB_end k d (by rw [hb]), hb] at h11
  exact ⟨_, h11.symm, h1, by show d.pos + 4 = _; rw [h2], h4, h6, h7, h8⟩
def pS : Piece := (36, fun _ => True, gHeldSum)
def pU : Piece := (37, fun d => d.plain.length ≤ 1048576, gUnp)
def pM : Piece := (38, fun _ => True, gMost)
/-- What the pieces that are left say of the whole. -/
def Rest (G : Nat × FD) (k : Nat) (ps : List Piece) (d : FD) : Prop := ((turnF ps d).1 ≠ 0 → G = turnF ps d) ∧ ∀ d2, turnF ps d = (0, d2) → G = goB k d2
theorem Rest.step {G : Nat × FD} {k : Nat} {p : Piece} {ps : List Piece} {d d' : FD} (h : Rest G k (p :: ps) d) (hp : p.2.2 d = (0, d')) : Rest G k ps d' := by
  unfold Rest at h
  rw [turn_cons p ps d d' hp] at h
  exact h
theorem Rest.bad {G : Nat × FD} {k E : Nat} {p : Piece} {ps : List Piece} {d : FD} (h : Rest G k (p :: ps) d) (hp : (p.2.2 d).1 = E) (hE : E ≠ 0) : G.1 = E := by
  have e := turn_fail p ps d (by rw [hp]; exact hE)
  rw [h.1 (by rw [e, hp]; exact hE), e, hp]
/-- A block under way. -/
structure BlSt (S : ByteArray) (most f M sz : Nat) (G : Nat × FD) (ps : List Piece) (N a : Nat) (X : ByteArray) (l : List Nat) (k : Nat) : Prop where
  ok : Rest G k ps ⟨S, a, most, f, M, sz, N, X, l⟩
  le : a ≤ S.size
  fuel : S.size - a < k
theorem bl_sum_no {S : ByteArray} {most f M sz : Nat} {G : Nat × FD} {N a k : Nat} {X : ByteArray} {l : List Nat} (h : BlSt S most f M sz G [pS, pU, pM] N a X l k) (hf : ¬ f / 16 % 2 = 1) : BlSt S most f M sz G [pU, pM] N a X l k :=
  ⟨h.ok.step (by show gHeldSum _ = _; unfold gHeldSum; rw [if_neg hf]), h.le, h.fuel⟩
theorem bl_sum_ok {S : ByteArray} {most f M sz : Nat} {G : Nat × FD} {N a k : Nat} {X : ByteArray} {l : List Nat} (h : BlSt S most f M sz G [pS, pU, pM] N a X l k) (hf : f / 16 % 2 = 1) (hs : sumE S a X = 0) : BlSt S most f M sz G [pU, pM] N (a + 4) X l k := by
  obtain ⟨e1, e2⟩ := (gSum_is X ⟨S, a, most, f, M, sz, N, X, l⟩).2 hs
  have h2 : a + 4 ≤ S.size := e2
  have := h.fuel
  exact ⟨h.ok.step (by show gHeldSum _ = _; unfold gHeldSum; rw [if_pos hf]; exact e1), h2, by omega⟩
theorem bl_sum_bad {S : ByteArray} {most f M sz : Nat} {G : Nat × FD} {N a k E : Nat} {X : ByteArray} {l : List Nat} (h : BlSt S most f M sz G [pS, pU, pM] N a X l k) (hf : f / 16 % 2 = 1) (hs : sumE S a X = E) (hE : E ≠ 0) : G.1 = E :=
  h.ok.bad (by show (gHeldSum _).1 = _; unfold gHeldSum; rw [if_pos hf]; exact (gSum_is X ⟨S, a, most, f, M, sz, N, X, l⟩).1.trans hs) hE
theorem bl_plain {S : ByteArray} {most f M sz : Nat} {G : Nat × FD} {N a k : Nat} {X : ByteArray} {l : List Nat} (h : BlSt S most f M sz G [pU, pM] N a X l k) (hN : 2147483648 ≤ N) : BlSt S most f M sz G [pM] N a X (l ++ bytesOf X) k :=
  ⟨h.ok.step (by show gUnp _ = _; unfold gUnp; rw [if_pos hN]), h.le, h.fuel⟩
theorem bl_unp_ok {S : ByteArray} {most f M sz : Nat} {G : Nat × FD} {N a k : Nat} {X : ByteArray} {l m : List Nat} (h : BlSt S most f M sz G [pU, pM] N a X l k) (hN : ¬ 2147483648 ≤ N) (hu : unpack X (min M 1048576) = (0, m)) : BlSt S most f M sz G [pM] N a X (l ++ m) k :=
  ⟨h.ok.step (by show gUnp _ = _; unfold gUnp; rw [if_neg hN, hu, if_neg (fun hh => by cases hh.1), if_pos rfl]), h.le, h.fuel⟩
theorem bl_unp_bad {S : ByteArray} {most f M sz : Nat} {G : Nat × FD} {N a k E : Nat} {X : ByteArray} {l : List Nat} (h : BlSt S most f M sz G [pU, pM] N a X l k) (hN : ¬ 2147483648 ≤ N) (hu : (unpack X (min M 1048576)).1 = E) (hE : E ≠ 0) : G.1 = if E = 4 ∧ M ≤ 1048576 then 70 else E := by
  by_cases h4 : E = 4 ∧ M ≤ 1048576
  · rw [if_pos h4]
    exact h.ok.bad (by show (gUnp _).1 = 70; unfold gUnp; rw [if_neg hN, if_pos (by rw [hu]; exact h4)]) (by decide)
  · rw [if_neg h4]
    exact h.ok.bad (by show (gUnp _).1 = E; unfold gUnp; rw [if_neg hN, if_neg (by rw [hu]; exact h4), if_neg (by rw [hu]; exact hE)]; exact hu) hE
theorem bl_long {S : ByteArray} {most f M sz : Nat} {G : Nat × FD} {N a k : Nat} {X : ByteArray} {l : List Nat} (h : BlSt S most f M sz G [pM] N a X l k) (hl : most < l.length) : G.1 = 4 :=
  h.ok.bad (by show (gMost _).1 = 4; unfold gMost; rw [if_pos hl]) (by decide)
theorem bl_done {S : ByteArray} {most f M sz : Nat} {G : Nat × FD} {N a k : Nat} {X : ByteArray} {l : List Nat} (h : BlSt S most f M sz G [pM] N a X l k) (hl : ¬ most < l.length) : RdSt S most f M sz G a (toBA l) :=
  ⟨k, ⟨S, a, most, f, M, sz, N, X, l⟩, rfl, rfl, rfl, rfl, rfl, rfl, rfl, by show l.length ≤ most; omega, h.le, h.fuel, (h.ok.2 _ (by rw [turn_one]; show gMost _ = _; unfold gMost; rw [if_neg hl])).symm⟩
theorem rd_held_short {S : ByteArray} {most f M sz : Nat} {G : Nat × FD} {a : Nat} {out : ByteArray} (h : RdSt S most f M sz G a out) (hs : a + 4 ≤ S.size) (hv : ¬ (nF S a 4 = 2147483648 ∨ M < nF S a 4 % 2147483648)) (h0 : nF S a 4 ≠ 0) (hh : S.size < a + 4 + nF S a 4 % 2147483648) : G.1 = 5 := by
  obtain ⟨k, d, h1, h2, h3, h4, h5, h6, h7, h8, h9, h10, h11⟩ := h
  obtain ⟨k, rfl⟩ : ∃ j, k = j + 1 := ⟨k - 1, by omega⟩
  have hb := bn_eq d (nF S a 4) (by rw [h1, h2]; exact hs) (by rw [h1, h2]) (by rw [h5]; exact hv)
  have hl := held_short { d with pos := d.pos + 4, block := nF S a 4 } _ rfl (by show d.s.size < d.pos + 4 + nF S a 4 % 2147483648; rw [h1, h2]; exact hh)
  have ht : (turnF fourP { d with pos := d.pos + 4, block := nF S a 4 }).1 = 5 := by
    unfold fourP
    rw [turn_fail _ _ _ (by show (gHeld _).1 ≠ 0; rw [hl]; decide)]
    exact hl
  rw [← h11, goB_stop k d _ hb h0 (by rw [ht]; decide), ht]
theorem rd_block {S : ByteArray} {most f M sz : Nat} {G : Nat × FD} {a : Nat} {out : ByteArray} (h : RdSt S most f M sz G a out) (hs : a + 4 ≤ S.size) (hv : ¬ (nF S a 4 = 2147483648 ∨ M < nF S a 4 % 2147483648)) (h0 : nF S a 4 ≠ 0) (hh : a + 4 + nF S a 4 % 2147483648 ≤ S.size) :
    ∃ l k, toBA l = out ∧ l.length ≤ most ∧ BlSt S most f M sz G [pS, pU, pM] (nF S a 4) (a + 4 + nF S a 4 % 2147483648) (S.extract (a + 4) (a + 4 + nF S a 4 % 2147483648)) l k := by
  obtain ⟨k, d, h1, h2, h3, h4, h5, h6, h7, h8, h9, h10, h11⟩ := h
  obtain ⟨k, rfl⟩ : ∃ j, k = j + 1 := ⟨k - 1, by omega⟩
  have hb := bn_eq d (nF S a 4) (by rw [h1, h2]; exact hs) (by rw [h1, h2]) (by rw [h5]; exact hv)
  have hl := held_eq { d with pos := d.pos + 4, block := nF S a 4 } _ (S.extract (a + 4) (a + 4 + nF S a 4 % 2147483648)) rfl (by show d.pos + 4 + nF S a 4 % 2147483648 ≤ d.s.size; rw [h1, h2]; exact hh) (by show d.s.extract (d.pos + 4) (d.pos + 4 + nF S a 4 % 2147483648) = _; rw [h1, h2])
  obtain ⟨ds, dp, dm, df, db, dz, dk, dh, dl⟩ := d
  simp only at h1 h2 h3 h4 h5 h6 h7 h8 hb hl
  subst h1 h2 h3 h4 h5 h6
  have ht := turn_cons (35, fun _ => True, gHeld) [pS, pU, pM] _ _ hl
  have hfour : fourP = (35, fun _ => True, gHeld) :: [pS, pU, pM] := rfl
  refine ⟨dl, k, h7, h8, ⟨⟨fun hne => ?_, fun d2 hd2 => ?_⟩, by omega, by omega⟩⟩
  · rw [← h11, goB_stop k _ _ hb h0 (by rw [hfour, ht]; exact hne), hfour, ht]
  · rw [← h11]
    exact goB_more k _ _ d2 hb h0 (by rw [hfour, ht]; exact hd2)
end Go.Proofs.Ytbncfpbehahidaa
