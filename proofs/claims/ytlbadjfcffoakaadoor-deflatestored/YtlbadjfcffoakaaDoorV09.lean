/- Layer 5: tokensOf. -/
import Derived.Test.YtlbadjfcffoakaaDoorV08
namespace Go.Proofs.YtlbadjfcffoakaaDoor.D5
open Go.RowKit Go.Maps
set_option linter.unusedVariables false
set_option maxRecDepth 20000

def nextOf (s : ByteArray) (k n : Nat) : Nat × Nat := if n < 64 then copyAt s (k + 1) else (0, 0)
theorem tokF_plain {s : ByteArray} {f k : Nat} (hk : k < s.size) (hp : plainAt s k = true) : tokF s (f + 1) k = (bt s k, 0, 0) :: tokF s f (k + 1) := by
  rw [tokF, if_neg (by omega), if_pos hp]
theorem tokF_copy {s : ByteArray} {f k : Nat} (hk : k < s.size) (hp : plainAt s k = false) : tokF s (f + 1) k = (0, (copyAt s k).1, (copyAt s k).2) :: tokF s f (k + (copyAt s k).1) := by
  rw [tokF, if_neg (by omega), if_neg (by rw [hp]; simp)]
theorem tokF_end {s : ByteArray} {f k : Nat} (hk : s.size ≤ k) : tokF s f k = [] := by
  cases f with
  | zero => rfl
  | succ f => rw [tokF, if_pos hk]
def TR (w0 w : World) (h : Nat) (s : ByteArray) (k : Nat) (v : Value) (b : Nat) : Prop :=
  ∃ T F, TS w0 w h s k T v b (copyAt s k).1 (copyAt s k).2 ∧ T ++ tokF s F k = tokensOf s ∧ s.size - k < F ∧ T.length ≤ k
structure NS (w0 w : World) (h : Nat) (s : ByteArray) (m : Nat) (T : List (Nat × Nat × Nat)) (v : Value) (b n d q x y : Nat) : Prop where
  ts : TS w0 w h s m T v b n d
  next : TokB w q 0 x y
  far : v.ownBlock ≠ some q
  ne : b ≠ q
  lo : h + 3 ≤ q
theorem NS.quiet {w0 w w' : World} {h : Nat} {s : ByteArray} {m : Nat} {T : List (Nat × Nat × Nat)} {v : Value} {b n d q x y : Nat} (p : NS w0 w h s m T v b n d q x y) (hb : Below w.heap.size w w') : NS w0 w' h s m T v b n d q x y :=
  ⟨p.ts.quiet hb, (hb.block q (lt_of_block p.next)).trans p.next, p.far, p.ne, p.lo⟩
theorem NS.set {w0 w : World} {h : Nat} {s : ByteArray} {m : Nat} {T : List (Nat × Nat × Nat)} {v : Value} {b n d q x y : Nat} (p : NS w0 w h s m T v b n d q x y) (x' y' : Nat) : NS w0 (((w.setCell ⟨q, 0, none⟩ (.int .u8 (0 : Nat))).setCell ⟨q, 1, none⟩ (.int .u16 (x' : Nat))).setCell ⟨q, 2, none⟩ (.int .u16 (y' : Nat))) h s m T v b n d q x' y' := by
  have lo := p.lo
  have hne : ∀ k, k ≠ q → (((w.setCell ⟨q, 0, none⟩ (.int .u8 (0 : Nat))).setCell ⟨q, 1, none⟩ (.int .u16 (x' : Nat))).setCell ⟨q, 2, none⟩ (.int .u16 (y' : Nat))).heap[k]? = w.heap[k]? := fun k hk => by
    rw [Below.heap_setCell _ _ _ _ hk, Below.heap_setCell _ _ _ _ hk, Below.heap_setCell _ _ _ _ hk]
  refine ⟨⟨p.ts.fs.kept (hne _ (by omega)) (hne _ (by omega)) (hne _ (by omega)), owns_kept p.ts.own (fun g hg => hne g (fun e => p.far (by rw [hg, e]))), (hne _ p.ne).trans p.ts.here, p.ts.apart, p.ts.lo, ?_⟩, ?_, p.far, p.ne, lo⟩
  · exact ((p.ts.bel.trans (Below.setCell' _ _ (by omega))).trans (Below.setCell' _ _ (by omega))).trans (Below.setCell' _ _ (by omega))
  · exact block_setCell (i := 2) (block_setCell (i := 1) (block_setCell (i := 0) p.next))
theorem NS.more {w0 w w' : World} {h : Nat} {s : ByteArray} {m : Nat} {T : List (Nat × Nat × Nat)} {v : Value} {b n d q x y : Nat} (p : NS w0 w h s m T v b n d q x y) {t : Nat × Nat × Nat} {g cap : Nat} (hown : w'.ownsRow (h + 3) 61 3 (.slice (some ⟨g, 0, none⟩) (T.length + 1) cap) (T.length + 1) (tcs T ++ tc t)) (hg : w.grownBy w' v.ownBlock) (hat : v.ownBlock = some g ∨ g = w.heap.size) :
    TS w0 w' h s m (T ++ [t]) (.slice (some ⟨g, 0, none⟩) (T.length + 1) cap) b n d ∧ TokB w' q 0 x y :=
  ⟨p.ts.more hown hg hat, (hg.block q (lt_of_block p.next) (fun e => p.far e.symm)).trans p.next⟩
theorem plain_next {s : ByteArray} {k n d x y : Nat} (hc : copyAt s k = (n, d)) (hn : nextOf s k n = (x, y)) : (plainAt s k = true ↔ (n = 0 ∨ n < x)) ∧ (plainAt s k = true → copyAt s (k + 1) = (x, y)) := by
  rw [plainAt_iff, hc]
  simp only
  unfold nextOf at hn
  by_cases h : n < 64
  · rw [if_pos h] at hn
    rw [hn]
    exact ⟨⟨fun e => e.imp id (·.2), fun e => e.imp id fun e => ⟨h, e⟩⟩, fun _ => rfl⟩
  · rw [if_neg h] at hn
    cases hn
    exact ⟨⟨fun e => e.imp id (fun e => absurd e.1 h), fun e => e.imp id (fun e => by omega)⟩, fun e => by rcases e with e | e <;> omega⟩
theorem cp_nums {s : ByteArray} {k n d x E : Nat} (hc : CopyOK s k n d) (hp : ¬ (n = 0 ∨ n < x)) (hE : k + n = E) (hs : s.size ≤ 1048576) : ((n : Int) == 0) = false ∧ ¬ (n : Int) < (x : Int) ∧ (k : Int) + (n : Int) = (E : Int) ∧ IntKind.i64.wrap (E : Int) = (E : Int) ∧ wrap64 (n : Int) = (n : Int) ∧ k + 1 ≤ E ∧ E ≤ s.size ∧ k + 3 ≤ E := by
  have h1 := hc.long
  have h2 := hc.room
  have h3 := hc.most
  exact ⟨by simp; omega, by omega, by omega, wrapN E (by omega), wrapN64 n (by omega), by omega, by omega, by omega⟩
theorem wrap_succ {k : Nat} (h : k ≤ 4194304) : Value.int .i64 (wrap64 ((k : Int) + 1)) = .int .i64 ((k + 1 : Nat) : Int) := by
  congr 1; unfold wrap64; omega
theorem tok_room {L k S : Nat} (h1 : L ≤ k) (h2 : k < S) (h3 : S ≤ 1048576) : L + 1 ≤ maxLen ∧ (L + 1) * 6 ≤ 140737488355328 := by
  unfold maxLen; exact ⟨by omega, by omega⟩
set_option maxHeartbeats 8000000 in
theorem tokensOf_ok (s : ByteArray) (w : World) (hs : s.size ≤ 1048576) : Calls Tryd.prog 11 #[.string s] w fun e w' => ∃ v, e = .returned v ∧ w'.ownsRow (w.heap.size + 3) 61 3 v (tokensOf s).length (tcs (tokensOf s)) ∧ Below w.heap.size w w' := by
  have hmm := @run_makeMap Tryd.prog
  have hmk : ∀ W : World, (Instr.makeSlice 56 (.int .i64 (s.size : Int)) (.int .i64 (s.size : Int))).run Tryd.prog W = .ok (.slice (some ⟨W.heap.size, 0, none⟩) s.size s.size) (W.alloc (.cells (madeCells #[.int .i32 0] s.size) 21)) := fun W => run_make_row' (P := Tryd.prog) 56 21 (.int .i32 0) 4 Tryd.underlying56 info32 rfl .i64 .i64 s.size (by omega) (by omega) W
  obtain ⟨i0, hi0, hz0, hz1, hz2⟩ := info_split tokInfo
  have HI : Hid (Tryd.prog.info? 61 = some i0 ∧ i0.zero = some (.agg #[.int .u8 0, .int .u16 0, .int .u16 0]) ∧ i0.size = 3 ∧ i0.bytes = 6) := ⟨hi0, hz0, hz1, hz2⟩
  clear hi0 hz0 hz1 hz2
  obtain ⟨h, hh⟩ : ∃ h, w.heap.size = h := ⟨_, rfl⟩
  have HST := ts_start w s hs
  rw [hh] at HST
  have HSTH : Hid (_ ∧ _) := HST
  clear HST
  go_enter Tryd.func11, Tryd.ntmps11
  go_wp2_with fail
  obtain ⟨W3, hW3⟩ : ∃ W3, (((w.alloc (.map #[] 0)).alloc (.cells (madeCells #[.int .i32 0] s.size) 21)).alloc (.cells #[.string s, .map (some h), .slice (some ⟨h + 1, 0, none⟩) s.size s.size] 58)) = W3 := ⟨_, rfl⟩
  rw [hW3] at HSTH ⊢
  obtain ⟨f, hf⟩ : ∃ f, h + 1 + 1 = f := ⟨_, rfl⟩
  rw [hf]
  have HCA : Hid (∀ W k, FS W (h + 2) h (h + 1) s (met s k) → k ≤ 4194304 → Calls Tryd.prog 24 #[.pointer (some ⟨f, 0, none⟩), .int .i64 (k : Nat)] W fun e w' => e = .returned (.agg #[.int .u8 0, .int .u16 ((copyAt s k).1 : Nat), .int .u16 ((copyAt s k).2 : Nat)]) ∧ Below W.heap.size W w') := fun W k hF hk => by
    rw [← hf]; exact cpAt_ok W (h + 2) h (h + 1) s k hF hk
  have HME : Hid (∀ W k, FS W (h + 2) h (h + 1) s (met s k) → k ≤ 4194304 → Calls Tryd.prog 25 #[.pointer (some ⟨f, 0, none⟩), .int .i64 (k : Nat)] W fun e w' => e = .returned (.tuple #[]) ∧ FS w' (h + 2) h (h + 1) s (met s (k + 1)) ∧ TF h (h + 1) W w') := fun W k hF hk => by
    rw [← hf]; exact meet_at W (h + 2) h (h + 1) s k hF hk
  clear hW3 hmm hmk hf
  have m0 : met s 0 = 0 := by unfold met; omega
  have HC0 : Hid (∀ _ : Unit, Calls Tryd.prog 24 #[.pointer (some ⟨f, 0, none⟩), .int .i64 0] W3 fun e w' => e = .returned (.agg #[.int .u8 0, .int .u16 ((copyAt s 0).1 : Nat), .int .u16 ((copyAt s 0).2 : Nat)]) ∧ Below W3.heap.size W3 w') := fun _ => HCA.out W3 0 (by rw [m0]; exact HSTH.out.1) (by omega)
  refine (HC0.out ()).mono ?_
  rintro e w4 ⟨rfl, hb4⟩
  obtain ⟨c0, hc0⟩ : ∃ c, copyAt s 0 = c := ⟨_, rfl⟩
  obtain ⟨n0, d0⟩ := c0
  rw [hc0]
  simp only
  have H4 : Hid (FS w4 (h + 2) h (h + 1) s 0 ∧ Below h w w4 ∧ h + 3 ≤ w4.heap.size) :=
    ⟨HSTH.out.1.below hb4, HSTH.out.2.trans (hb4.mono (by have := HSTH.out.1.lt; omega)), by have := HSTH.out.1.lt; have := hb4.size; omega⟩
  have H5 : Hid (TR w (w4.alloc (.cells #[.int .u8 0, .int .u16 (n0 : Nat), .int .u16 (d0 : Nat)] 61)) h s 0 (.slice none 0 0) w4.heap.size) := by
    refine ⟨[], s.size + 1, ⟨?_, World.ownsRow_nil _ _ _ _, ?_, by simp [Value.ownBlock], H4.out.2.2, H4.out.2.1.alloc (by have := H4.out.2.2; omega) _⟩, rfl, by omega, by simp⟩
    · rw [m0]; exact H4.out.1.below ((Below.refl _ _).alloc (Nat.le_refl _) _)
    · rw [hc0]; exact heap_alloc_new _ _
  clear hb4 HC0 hc0 m0 HSTH
  go_wp2_with fail
  obtain ⟨W5, hW5⟩ : ∃ W5, w4.alloc (.cells #[.int .u8 0, .int .u16 (n0 : Nat), .int .u16 (d0 : Nat)] 61) = W5 := ⟨_, rfl⟩
  obtain ⟨b, hb⟩ : ∃ b, w4.heap.size = b := ⟨_, rfl⟩
  rw [hW5, hb] at H5
  try rw [hW5]
  try rw [hb]
  clear hW5 hb H4
  go_loopw [4, 6] (fun v4 v6 wr => ∃ k : Nat, v6 = .int .i64 (k : Nat) ∧ k ≤ s.size ∧ Hid (TR w wr h s k v4 b)) (fun _ v6 _ => s.size - (intOf v6).toNat)
  case atStart => exact ⟨0, rfl, Nat.zero_le _, H5.out⟩
  case round =>
    obtain ⟨k, rfl, hk, HR⟩ := hrel
    obtain ⟨T, F, hT, hF, hFs, hTl⟩ := HR.out
    by_cases hlt : k < s.size
    · have hlti : (k : Int) < (s.size : Int) := by omega
      obtain ⟨c, hc⟩ : ∃ c, copyAt s k = c := ⟨_, rfl⟩
      have hcb := copyAt_b s k
      have hco := copyAt_ok (s := s) (k := k)
      rw [hc] at hT hcb hco
      obtain ⟨n, d⟩ := c
      simp only at hT hcb hco
      obtain ⟨F, rfl⟩ : ∃ F', F = F' + 1 := ⟨F - 1, by omega⟩
      have HF : Hid (T ++ tokF s (F + 1) k = tokensOf s ∧ copyAt s k = (n, d)) := ⟨hF, hc⟩
      have HT : Hid (TS w wr h s k T u4 b n d) := hT
      have HM1 : Hid (∀ _ : Unit, Calls Tryd.prog 25 #[.pointer (some ⟨f, 0, none⟩), .int .i64 (k : Nat)] wr fun e w' => e = .returned (.tuple #[]) ∧ FS w' (h + 2) h (h + 1) s (met s (k + 1)) ∧ TF h (h + 1) wr w') := fun _ => HME.out wr k hT.fs (by omega)
      clear hT hF hc HR
      go_upto_region 7 with (go_at_call 25; refine (HM1.out ()).mono ?_; rintro e w1 ⟨rfl, hf1, ht1⟩)
      have H1 : Hid (TS w w1 h s (k + 1) T u4 b n d) := HT.out.met' hf1 ht1
      clear hf1 ht1 HM1
      have hcells : ∀ o, (w1.alloc o).cell? ⟨b, 1, none⟩ = some (.int .u16 (n : Nat)) := fun o => (H1.out.alloc o).here.cells.1.2.1
      have HNB : Hid (NS w (w1.alloc (.cells #[.int .u8 0, .int .u16 0, .int .u16 0] 61)) h s (k + 1) T u4 b n d w1.heap.size 0 0) :=
        ⟨H1.out.alloc _, heap_alloc_new _ _, fun e => by have := (H1.out.own.lt _ e).2; omega, by have := lt_of_block H1.out.here; omega, by have := H1.out.lo; have := lt_of_block H1.out.here; omega⟩
      go_upto_if 24 with fail
      obtain ⟨W2, hW2⟩ : ∃ W2, w1.alloc (.cells #[.int .u8 0, .int .u16 0, .int .u16 0] 61) = W2 := ⟨_, rfl⟩
      obtain ⟨q, hq⟩ : ∃ q, w1.heap.size = q := ⟨_, rfl⟩
      rw [hW2, hq] at HNB ⊢
      clear hcells hW2 hq H1 HT
      obtain ⟨nx, hnx⟩ : ∃ nx, nextOf s k n = nx := ⟨_, rfl⟩
      go_cut [] (fun wc => Hid (NS w wc h s (k + 1) T u4 b n d q nx.1 nx.2))
      case first =>
        as_aux_lemma =>
          unfold nextOf at hnx
          by_cases h64 : n < 64
          · have h64i : (n : Int) < 64 := by omega
            rw [if_pos h64] at hnx
            obtain ⟨k1, hk1⟩ : ∃ k1, k + 1 = k1 := ⟨_, rfl⟩
            have hk1i : (k : Int) + 1 = (k1 : Int) := by omega
            have hk1w := wrapN k1 (by omega)
            rw [hk1] at hnx HNB
            have HCC : Hid (∀ _ : Unit, Calls Tryd.prog 24 #[.pointer (some ⟨f, 0, none⟩), .int .i64 (k1 : Nat)] W2 fun e w' => e = .returned (.agg #[.int .u8 0, .int .u16 (nx.1 : Nat), .int .u16 (nx.2 : Nat)]) ∧ Below W2.heap.size W2 w') := fun _ => by
              have := HCA.out W2 k1 HNB.out.ts.fs (by omega)
              rw [hnx] at this
              exact this
            obtain ⟨x, y⟩ := nx
            simp only at HCC ⊢
            clear hnx hco
            go_wp2_with (go_at_call 24; refine (HCC.out ()).mono ?_; rintro e w3 ⟨rfl, hb3⟩; have HN3 : Hid (NS w w3 h s k1 T u4 b n d q 0 0) := HNB.out.quiet hb3; obtain ⟨⟨z0, z1, z2⟩, q0, q1, q2⟩ := HN3.out.next.cells)
            go_meet
            case rel => rw [hk1]; exact HN3.out.set x y
          · have h64i : ¬ (n : Int) < 64 := by omega
            rw [if_neg h64] at hnx
            subst hnx
            clear hco
            go_wp2_with fail
            go_meet
            case rel => exact HNB.out
      case rest =>
        obtain ⟨x, y⟩ := nx
        simp only at hcut
        have HN : Hid (NS w wc h s (k + 1) T u4 b n d q x y) := hcut.out
        have HX : Hid (nextOf s k n = (x, y)) := hnx
        clear hcut hnx HNB
        have hpl := plain_next HF.out.2 HX.out
        obtain ⟨⟨z0, z1, z2⟩, q0, q1, q2⟩ := HN.out.next.cells
        obtain ⟨⟨c0, c1, c2⟩, p0, p1, p2⟩ := HN.out.ts.here.cells
        have b0 := bt_at s k hlt
        obtain ⟨B0, hB0⟩ : ∃ B0, bt s k = B0 := ⟨_, rfl⟩
        rw [hB0] at b0
        obtain ⟨L, hL⟩ : ∃ L, T.length = L := ⟨_, rfl⟩
        rw [hL] at hTl
        have HOW : Hid (∀ o, (wc.alloc o).ownsRow (h + 3) 61 3 u4 L (tcs T) ∧ h + 3 ≤ (wc.alloc o).heap.size) := fun o => by
          rw [← hL]
          exact ⟨(HN.out.ts.alloc o).own, by have := HN.out.lo; have := lt_of_block HN.out.next; simp; omega⟩
        by_cases hp : n = 0 ∨ n < x
        · have HNX : Hid (copyAt s (k + 1) = (x, y) ∧ T ++ ((B0, 0, 0) :: tokF s F (k + 1)) = tokensOf s) := by
            have h1 := hpl.1.2 hp
            refine ⟨hpl.2 h1, ?_⟩
            have := HF.out.1
            rw [tokF_plain hlt h1, hB0] at this
            exact this
          have HEND : Hid (∀ w5 g cap, w5.ownsRow (h + 3) 61 3 (.slice (some ⟨g, 0, none⟩) (L + 1) cap) (L + 1) (tcs T ++ tc (B0, 0, 0)) → (wc.alloc (.cells #[.int .u8 (B0 : Nat), .int .u16 0, .int .u16 0] 61)).grownBy w5 u4.ownBlock → (u4.ownBlock = some g ∨ g = wc.heap.size + 1) → TS w w5 h s (k + 1) (T ++ [(B0, 0, 0)]) (.slice (some ⟨g, 0, none⟩) (L + 1) cap) b n d ∧ TokB w5 q 0 x y) := fun w5 g cap a1 a2 a3 => by
            rw [← hL] at a1 ⊢
            exact (HN.out.quiet ((Below.refl _ _).alloc (Nat.le_refl _) _)).more a1 a2 (by simpa using a3)
          clear q0 q1 q2 p0 p1 p2
          by_cases hn0 : n = 0
          · have hn0b : ((n : Int) == 0) = true := by simp [hn0]
            clear hp hpl z0 z2 c0 c2
            go_wp2_with (at_builtin; refine wpList_append_lies _ rfl _ _ 33 rfl (h + 3) 61 i0 (.agg #[.int .u8 0, .int .u16 0, .int .u16 0]) 3 6 Tryd.underlying33 HI.out.1 HI.out.2.1 HI.out.2.2.1 HI.out.2.2.2 rfl (by decide) u4 L (tcs T) rfl (HOW.out _).1 ⟨wc.heap.size, 0, none⟩ 1 1 (tc (B0, 0, 0)) rfl rfl ?c1 ?c2 (by decide) ?c3 ?c4 (HOW.out _).2 _ rfl ?_)
            case c1 => exact newsTok _ (B0, 0, 0)
            case c2 => exact oneTok _
            case c3 => exact (tok_room hTl hlt hs).1
            case c4 => exact (tok_room hTl hlt hs).2
            intro g cap w5 hown hgrow hat hgl
            have h5 := HEND.out w5 g cap hown hgrow hat
            have H5T : Hid (TS w w5 h s (k + 1) (T ++ [(B0, 0, 0)]) (.slice (some ⟨g, 0, none⟩) (L + 1) cap) b n d) := h5.1
            obtain ⟨⟨z0, z1, z2⟩, q0, q1, q2⟩ := h5.2.cells
            obtain ⟨⟨c0, c1, c2⟩, p0, p1, p2⟩ := h5.1.here.cells
            clear h5 hown hgrow hat hgl
            go_wp2
            have HZ : Hid (TR w (((w5.setCell ⟨b, 0, none⟩ (.int .u8 (0 : Nat))).setCell ⟨b, 1, none⟩ (.int .u16 (x : Nat))).setCell ⟨b, 2, none⟩ (.int .u16 (y : Nat))) h s (k + 1) (.slice (some ⟨g, 0, none⟩) (L + 1) cap) b) := by
              refine ⟨T ++ [(B0, 0, 0)], F, ?_, by rw [List.append_assoc]; exact HNX.out.2, by omega, by rw [List.length_append, hL]; simp; omega⟩
              rw [HNX.out.1]
              exact H5T.out.hand x y
            exact ⟨⟨k + 1, by go_num, by omega, HZ⟩, by simp [intOf]; omega⟩
          · have hn0b : ((n : Int) == 0) = false := by simp; omega
            have hnx : (n : Int) < (x : Int) := by omega
            clear hp hpl z0 z2 c0 c2
            go_wp2_with (at_builtin; refine wpList_append_lies _ rfl _ _ 33 rfl (h + 3) 61 i0 (.agg #[.int .u8 0, .int .u16 0, .int .u16 0]) 3 6 Tryd.underlying33 HI.out.1 HI.out.2.1 HI.out.2.2.1 HI.out.2.2.2 rfl (by decide) u4 L (tcs T) rfl (HOW.out _).1 ⟨wc.heap.size, 0, none⟩ 1 1 (tc (B0, 0, 0)) rfl rfl ?c1 ?c2 (by decide) ?c3 ?c4 (HOW.out _).2 _ rfl ?_)
            case c1 => exact newsTok _ (B0, 0, 0)
            case c2 => exact oneTok _
            case c3 => exact (tok_room hTl hlt hs).1
            case c4 => exact (tok_room hTl hlt hs).2
            intro g cap w5 hown hgrow hat hgl
            have h5 := HEND.out w5 g cap hown hgrow hat
            have H5T : Hid (TS w w5 h s (k + 1) (T ++ [(B0, 0, 0)]) (.slice (some ⟨g, 0, none⟩) (L + 1) cap) b n d) := h5.1
            obtain ⟨⟨z0, z1, z2⟩, q0, q1, q2⟩ := h5.2.cells
            obtain ⟨⟨c0, c1, c2⟩, p0, p1, p2⟩ := h5.1.here.cells
            clear h5 hown hgrow hat hgl
            go_wp2
            have HZ : Hid (TR w (((w5.setCell ⟨b, 0, none⟩ (.int .u8 (0 : Nat))).setCell ⟨b, 1, none⟩ (.int .u16 (x : Nat))).setCell ⟨b, 2, none⟩ (.int .u16 (y : Nat))) h s (k + 1) (.slice (some ⟨g, 0, none⟩) (L + 1) cap) b) := by
              refine ⟨T ++ [(B0, 0, 0)], F, ?_, by rw [List.append_assoc]; exact HNX.out.2, by omega, by rw [List.length_append, hL]; simp; omega⟩
              rw [HNX.out.1]
              exact H5T.out.hand x y
            exact ⟨⟨k + 1, by go_num, by omega, HZ⟩, by simp [intOf]; omega⟩
        · have hcp : CopyOK s k n d := (hco.resolve_left (by omega)).1
          have HNX : Hid (T ++ ((0, n, d) :: tokF s F (k + n)) = tokensOf s) := by
            have h1 : plainAt s k = false := by
              cases hq : plainAt s k with
              | false => rfl
              | true => exact absurd (hpl.1.1 hq) hp
            have := HF.out.1
            rw [tokF_copy hlt h1, HF.out.2] at this
            exact this
          have HEND : Hid (∀ w5 g cap, w5.ownsRow (h + 3) 61 3 (.slice (some ⟨g, 0, none⟩) (L + 1) cap) (L + 1) (tcs T ++ tc (0, n, d)) → (wc.alloc (.cells #[.int .u8 0, .int .u16 (n : Nat), .int .u16 (d : Nat)] 61)).grownBy w5 u4.ownBlock → (u4.ownBlock = some g ∨ g = wc.heap.size + 1) → TS w w5 h s (k + 1) (T ++ [(0, n, d)]) (.slice (some ⟨g, 0, none⟩) (L + 1) cap) b n d) := fun w5 g cap a1 a2 a3 => by
            rw [← hL] at a1 ⊢
            exact (HN.out.ts.alloc _).more a1 a2 (by simpa using a3)
          obtain ⟨E, hE⟩ : ∃ E, k + n = E := ⟨_, rfl⟩
          obtain ⟨hn0b, hnx, hEi, hEw, hnw, hE1, hEs, hE3⟩ := cp_nums hcp hp hE hs
          have HE3 : Hid (k + 3 ≤ E ∧ k + n = E) := ⟨hE3, hE⟩
          rw [hE] at HNX
          clear hp hpl hcp hco hE3 z0 z2 q0 q1 q2 p0 p1 p2 b0
          go_upto_region 15 with (at_builtin; refine wpList_append_lies _ rfl _ _ 33 rfl (h + 3) 61 i0 (.agg #[.int .u8 0, .int .u16 0, .int .u16 0]) 3 6 Tryd.underlying33 HI.out.1 HI.out.2.1 HI.out.2.2.1 HI.out.2.2.2 rfl (by decide) u4 L (tcs T) rfl (HOW.out _).1 ⟨wc.heap.size, 0, none⟩ 1 1 (tc (0, n, d)) rfl rfl ?c1 ?c2 (by decide) ?c3 ?c4 (HOW.out _).2 _ rfl ?_)
          case c1 => first | exact newsTok _ (0, n, d) | exact fun j u h => h
          case c2 => exact oneTok _
          case c3 => exact (tok_room hTl hlt hs).1
          case c4 => exact (tok_room hTl hlt hs).2
          intro g cap w5 hown hgrow hat hgl
          have h5 := HEND.out w5 g cap hown hgrow hat
          have H5T : Hid (TS w w5 h s (k + 1) (T ++ [(0, n, d)]) (.slice (some ⟨g, 0, none⟩) (L + 1) cap) b n d) := h5
          obtain ⟨⟨c0, c1, c2⟩, p0, p1, p2⟩ := h5.here.cells
          clear h5 hown hgrow hat hgl HEND HOW HN hE
          go_wp2_with fail
          clear hEi hEw hnw hn0b hnx
          go_loopw [6] (fun v6 wr => ∃ j : Nat, v6 = .int .i64 (j : Nat) ∧ k + 1 ≤ j ∧ j ≤ E ∧ Hid (TS w wr h s j (T ++ [(0, n, d)]) (.slice (some ⟨g, 0, none⟩) (L + 1) cap) b n d)) (fun v6 _ => E - (intOf v6).toNat)
          case atStart => exact ⟨k + 1, wrap_succ (by omega), Nat.le_refl _, hE1, H5T.out⟩
          case round =>
            obtain ⟨j, rfl, hkj, hjE, HJ⟩ := hrel
            by_cases hjl : j < E
            · have hjli : (j : Int) < (E : Int) := by omega
              have HMM : Hid (∀ _ : Unit, Calls Tryd.prog 25 #[.pointer (some ⟨f, 0, none⟩), .int .i64 (j : Nat)] wr fun e w' => e = .returned (.tuple #[]) ∧ FS w' (h + 2) h (h + 1) s (met s (j + 1)) ∧ TF h (h + 1) wr w') := fun _ => HME.out wr j HJ.out.fs (by omega)
              go_wp2_with fail
              refine (HMM.out ()).mono ?_
              rintro e w6 ⟨rfl, hf6, ht6⟩
              have H6 : Hid (TS w w6 h s (j + 1) (T ++ [(0, n, d)]) (.slice (some ⟨g, 0, none⟩) (L + 1) cap) b n d) := HJ.out.met' hf6 ht6
              clear hf6 ht6 HMM
              go_wp2
              exact ⟨⟨j + 1, by go_num, by omega, by omega, H6⟩, by simp [intOf]; omega⟩
            · obtain rfl : j = E := by omega
              have hjli : ¬ (j : Int) < (j : Int) := by omega
              have HCC : Hid (∀ _ : Unit, Calls Tryd.prog 24 #[.pointer (some ⟨f, 0, none⟩), .int .i64 (j : Nat)] wr fun e w' => e = .returned (.agg #[.int .u8 0, .int .u16 ((copyAt s j).1 : Nat), .int .u16 ((copyAt s j).2 : Nat)]) ∧ Below wr.heap.size wr w') := fun _ => HCA.out wr j HJ.out.fs (by omega)
              obtain ⟨c, hc⟩ : ∃ c, copyAt s j = c := ⟨_, rfl⟩
              rw [hc] at HCC
              obtain ⟨x2, y2⟩ := c
              simp only at HCC
              have HC2 : Hid (copyAt s j = (x2, y2)) := hc
              clear hc
              go_wp2_with fail
              refine (HCC.out ()).mono ?_
              rintro e w6 ⟨rfl, hb6⟩
              have H6 : Hid (TS w w6 h s j (T ++ [(0, n, d)]) (.slice (some ⟨g, 0, none⟩) (L + 1) cap) b n d) := HJ.out.quiet hb6
              obtain ⟨⟨c0, c1, c2⟩, p0, p1, p2⟩ := H6.out.here.cells
              clear hb6 HCC
              go_wp2
              have HZ : Hid (TR w (((w6.setCell ⟨b, 0, none⟩ (.int .u8 (0 : Nat))).setCell ⟨b, 1, none⟩ (.int .u16 (x2 : Nat))).setCell ⟨b, 2, none⟩ (.int .u16 (y2 : Nat))) h s j (.slice (some ⟨g, 0, none⟩) (L + 1) cap) b) := by
                refine ⟨T ++ [(0, n, d)], F, ?_, by rw [List.append_assoc]; exact HNX.out, by have := HE3.out; omega, by rw [List.length_append, hL]; simp; have := HE3.out; omega⟩
                rw [HC2.out]
                exact H6.out.hand x2 y2
              exact ⟨⟨j, rfl, by omega, HZ⟩, by have := HE3.out; simp [intOf]; omega⟩
    · have hlti : ¬ (k : Int) < (s.size : Int) := by omega
      rw [tokF_end (by omega), List.append_nil] at hF
      have HFI : Hid (wr.ownsRow (h + 3) 61 3 u4 (tokensOf s).length (tcs (tokensOf s)) ∧ Below h w wr) := by rw [← hF]; exact ⟨hT.own, hT.bel⟩
      clear hT hF HR
      go_wp2
      go_ret
      exact ⟨_, rfl, by first | exact HFI.out.1 | (rw [hh]; exact HFI.out.1), by first | exact HFI.out.2 | (rw [hh]; exact HFI.out.2)⟩
end Go.Proofs.YtlbadjfcffoakaaDoor.D5
