/- Layer 7: a frame that is written. -/
/- Layer 7: a frame's head, its blocks. -/
/- Layer 7: a frame's blocks. -/
/- Layer 7: Pack. -/
import Derived.Test.YtbncfpbehahidaaGj1
import Derived.Test.YtbncfpbehahidaaYx
import Derived.Test.YtbncfpbehahidaaGj2
namespace Go.Proofs.Ytbncfpbehahidaa
open Go.RowKit
set_option linter.unusedVariables false
set_option maxRecDepth 20000

/-- Block b is a packer of frames, whose bytes are l (they lie from block B on). -/
structure PW (w : World) (B b : Nat) (l : List Nat) (v : Value) : Prop where
  blk : w.heap[b]? = some (.cells #[v] 48 (0, 0))
  own : w.ownsRow B 5 1 v l.length (bcells l)
  hB : B ≤ b
  small : l.length ≤ 16777216
  bytes : Bytes l
theorem PW.cells {w : World} {B b : Nat} {l : List Nat} {v : Value} (h : PW w B b l v) : w.cell? ⟨b, 0, none⟩ = some v ∧ w.frozen? ⟨b, 0, none⟩ = false := by
  have h1 := h.blk
  exact ⟨by simp [World.cell?, h1], by simp [World.frozen?, h1]⟩
theorem PW.form {w : World} {B b : Nat} {l : List Nat} {v : Value} (h : PW w B b l v) : ∃ ao cp, v = .slice ao l.length cp := by
  rcases h.own.2 with ⟨e, h0⟩ | ⟨g, cap, cur, e, _⟩
  · exact ⟨none, 0, by rw [e, h0]⟩
  · exact ⟨_, _, e⟩
theorem PW.drewN {w : World} {B b : Nat} {l : List Nat} {v : Value} (h : PW w B b l v) (k : Nat) : PW (w.drewN k) B b l v := ⟨h.blk, h.own, h.hB, h.small, h.bytes⟩
theorem PW.size {w : World} {B b : Nat} {l : List Nat} {v : Value} (h : PW w B b l v) : B ≤ w.heap.size := Nat.le_trans h.hB (Nat.le_of_lt (lt_of_block h.blk))
theorem PW.call {w w' : World} {B b : Nat} {l : List Nat} {v : Value} (h : PW w B b l v) (hb : Below w.heap.size w w') : PW w' B b l v := by
  refine ⟨(hb.block b (lt_of_block h.blk)).trans h.blk, ?_, h.hB, h.small, h.bytes⟩
  refine ⟨h.own.1, ?_⟩
  rcases h.own.2 with e | ⟨g, cap, cur, e1, e2, e3, e4⟩
  · exact .inl e
  · exact .inr ⟨g, cap, cur, e1, e2, (hb.block g (lt_of_block e3)).trans e3, e4⟩
theorem PW.alloc {w : World} {B b : Nat} {l : List Nat} {v : Value} (h : PW w B b l v) (o : Obj) : PW (w.alloc o) B b l v := h.call ((Below.refl _ _).alloc (Nat.le_refl _) o)
/-- More bytes were appended. -/
theorem PW.grow {w w1 : World} {B b : Nat} {l m : List Nat} {v v1 : Value} (h : PW w B b l v) (hm : Bytes m) (hl : l.length + m.length ≤ 16777216) (hown : w1.ownsRow B 5 1 v1 (l.length + m.length) (bcells l ++ bcells m)) (hg : w.grownBy w1 v.ownBlock) :
    w1.cell? ⟨b, 0, none⟩ = some v ∧ w1.frozen? ⟨b, 0, none⟩ = false ∧ (∃ ao ln cp, v1 = .slice ao ln cp) ∧ PW (w1.setCell ⟨b, 0, none⟩ v1) B b (l ++ m) v1 ∧ Below B w (w1.setCell ⟨b, 0, none⟩ v1) := by
  have hbl := (kept_row h.blk (by decide) h.own hg).trans h.blk
  refine ⟨by simp [World.cell?, hbl], by simp [World.frozen?, hbl], ?_, ⟨block_setCell (i := 0) hbl, ?_, h.hB, by rw [List.length_append]; exact hl, h.bytes.append hm⟩, (Below.grown h.own hg h.size).trans (Below.setCell' w1 _ h.hB)⟩
  · rcases hown.2 with ⟨rfl, _⟩ | ⟨g, cap, cur, rfl, _⟩
    · exact ⟨_, _, _, rfl⟩
    · exact ⟨_, _, _, rfl⟩
  · rw [List.length_append, bcells_append]
    exact ownsRow_set hown hbl (by decide)
def PEnds (B b : Nat) (w : World) (l : List Nat) (e : Ending) (w' : World) : Prop := e = .returned (.tuple #[]) ∧ (∃ v', PW w' B b l v') ∧ Below B w w'
set_option maxHeartbeats 1000000 in
theorem put_ok (w : World) (B b : Nat) (l : List Nat) (v : Value) (h : PW w B b l v) (t : ByteArray) (ht : l.length + t.size ≤ 16777216) :
    Calls Try.prog 44 #[.pointer (some ⟨b, 0, none⟩), .string t] w fun e w' => PEnds B b w (l ++ bytesOf t) e w' := by
  have HU : Hid (PW w B b l v) := h
  obtain ⟨ao0, cp0, hv⟩ := h.form
  obtain ⟨c0, f0⟩ := h.cells
  obtain ⟨L, hL⟩ : ∃ L, l.length = L := ⟨_, rfl⟩
  rw [hL] at hv ht
  have HL : Hid (l.length = L) := hL
  obtain ⟨i0, hi0, hz0, hz1, hz2⟩ := info_parts infoB
  have HI : Hid (_ ∧ _ ∧ _ ∧ _) := ⟨hi0, hz0, hz1, hz2⟩
  have HO : Hid (w.ownsRow B 5 1 v L (bcells l) ∧ B ≤ w.heap.size) := ⟨by rw [← hL]; exact h.own, h.size⟩
  subst hv
  clear hi0 hz0 hz1 hz2 hL h
  go_enter Try.func44, Try.ntmps44
  go_wp2_with (at_builtin; refine Lib.wpList_append_own_string _ rfl _ _ 30 9 rfl B 5 i0 Try.underlying30 Try.underlying9 HI.out.1 HI.out.2.1 HI.out.2.2.1 HI.out.2.2.2 (.slice ao0 L cp0) L (bcells l) rfl HO.out.1 t rfl (by unfold maxLen; omega) (by omega) HO.out.2 ?_)
  intro v1 w4 hown1 hgrow _
  rw [strCells_eq, ← HL.out, ← bytesOf_length t] at hown1
  obtain ⟨z0, z1, ⟨ao, ln, cp, hv1⟩, z3, z4⟩ := HU.out.grow (bytesOf_bytes t) (by rw [HL.out, bytesOf_length]; exact ht) hown1 hgrow
  subst hv1
  have HZ : Hid _ := (⟨z3, z4⟩ : _ ∧ _)
  clear z3 z4 hown1 hgrow
  go_wp2
  go_end0
  exact ⟨rfl, ⟨_, HZ.out.1⟩, HZ.out.2⟩
def le4 (n : Nat) : List Nat := B1.fixB n 4
theorem le4_length (n : Nat) : (le4 n).length = 4 := B1.fixB_length n 4
theorem le4_bytes (n : Nat) : Bytes (le4 n) := B1.fixB_lt n 4
set_option maxHeartbeats 1000000 in
theorem putNumber_ok (w : World) (B b : Nat) (l : List Nat) (v : Value) (h : PW w B b l v) (n : Nat) (hn : n < 4294967296) (hl : l.length + 4 ≤ 16777216) :
    Calls Try.prog 29 #[.pointer (some ⟨b, 0, none⟩), .int .i64 (n : Nat)] w fun e w' => PEnds B b w (l ++ le4 n) e w' := by
  have HU : Hid (PW w B b l v) := h
  have HX : Hid (∀ W, Calls Try.prog 46 #[.int .i64 (n : Nat), .int .i64 4] W fun e w' => e = .returned (.tuple #[.string (toBA (le4 n)), .int .i64 0]) ∧ Below W.heap.size W w') := fun W => B1.putFixed n 4 W (by omega) (by omega) (by omega) (by
    have e : (n : Int) / 2 ^ (8 * 4) = 0 := by
      have : (2 : Int) ^ (8 * 4) = 4294967296 := by decide
      rw [this]; omega
    rw [e]; rfl)
  have HP : Hid (∀ W V, PW W B b l V → Calls Try.prog 44 #[.pointer (some ⟨b, 0, none⟩), .string (toBA (le4 n))] W fun e w' => PEnds B b W (l ++ le4 n) e w') := fun W V h1 => by
    have := put_ok W B b l V h1 (toBA (le4 n)) (by rw [toBA_size, le4_length]; exact hl)
    rw [bytesOf_toBA _ (le4_bytes n)] at this
    exact this
  obtain ⟨T, hT⟩ : ∃ T, toBA (le4 n) = T := ⟨_, rfl⟩
  rw [hT] at HX HP
  clear h hT
  go_enter Try.func29, Try.ntmps29
  go_wp2_with fail
  refine (HX.out _).mono ?_
  rintro e w1 ⟨rfl, hb1⟩
  have H1 : Hid (PW w1 B b l v ∧ Below B w w1) := ⟨HU.out.call hb1, hb1.mono HU.out.size⟩
  clear hb1
  go_wp2_with fail
  refine (HP.out _ _ H1.out.1).mono ?_
  rintro e w2 ⟨rfl, hU2, hb2⟩
  go_wp2
  go_end0
  exact ⟨rfl, hU2, H1.out.2.trans hb2⟩
end Go.Proofs.Ytbncfpbehahidaa
namespace Go.Proofs.Ytbncfpbehahidaa
open Go.RowKit
set_option linter.unusedVariables false
set_option maxRecDepth 20000

def hd2 : ByteArray := ⟨#[116, 64]⟩
theorem conv2 (W : World) : (convert 30 9 (.slice (some ⟨W.heap.size, 0, none⟩) 2 2)).run Try.prog (W.alloc (.cells #[.int .u8 116, .int .u8 64] 5)) = .ok (.string hd2) (W.alloc (.cells #[.int .u8 116, .int .u8 64] 5)) := by
  have := run_convert_bytes_back (P := Try.prog) (W.alloc (.cells #[.int .u8 116, .int .u8 64] 5)) 30 9 5 ⟨W.heap.size, 0, none⟩ 2 [116, 64] Try.underlying30 Try.underlying5 Try.underlying9 (fun j hj => by
    have hj' : j = 0 ∨ j = 1 := by simp at hj; omega
    rw [add_zero_addr]
    unfold World.cell?
    rw [heap_alloc_new]
    rcases hj' with rfl | rfl <;> rfl)
  exact this
def frHead : List Nat := [4, 34, 77, 24, 116, 64, hsum hd2 / 256 % 256]
def t6 : ByteArray := ⟨#[4, 34, 77, 24]⟩ ++ hd2
theorem t6_bytes : bytesOf t6 = [4, 34, 77, 24, 116, 64] := by decide +kernel
theorem PW.one {w w1 : World} {B b Q g cap : Nat} {l : List Nat} {v : Value} {x : Nat} (h : PW w B b l v) (hx : x < 256) (hQ : l.length = Q) (hl : Q + 1 ≤ 16777216) (hown : w1.ownsRow B 5 1 (.slice (some ⟨g, 0, none⟩) (Q + 1) cap) (Q + 1) (bcells l ++ [.int .u8 (x : Nat)])) (hg : w.grownBy w1 v.ownBlock) :
    w1.cell? ⟨b, 0, none⟩ = some v ∧ w1.frozen? ⟨b, 0, none⟩ = false ∧ PW (w1.setCell ⟨b, 0, none⟩ (.slice (some ⟨g, 0, none⟩) (Q + 1) cap)) B b (l ++ [x]) (.slice (some ⟨g, 0, none⟩) (Q + 1) cap) ∧ Below B w (w1.setCell ⟨b, 0, none⟩ (.slice (some ⟨g, 0, none⟩) (Q + 1) cap)) := by
  have h1 := h.grow (m := [x]) (v1 := .slice (some ⟨g, 0, none⟩) (Q + 1) cap) (fun y hy => by rw [List.mem_singleton.1 hy]; exact hx) (by rw [hQ]; exact hl) (by rw [hQ]; exact hown) hg
  exact ⟨h1.1, h1.2.1, h1.2.2.2.1, h1.2.2.2.2⟩
set_option maxHeartbeats 2000000 in
theorem putHead_ok (w : World) (B b : Nat) (v : Value) (h : PW w B b [] v) :
    Calls Try.prog 26 #[.pointer (some ⟨b, 0, none⟩)] w fun e w' => PEnds B b w frHead e w' := by
  have hcv := conv2 w
  have H0 : Hid (PW (w.alloc (.cells #[.int .u8 116, .int .u8 64] 5)) B b [] v ∧ Below B w (w.alloc (.cells #[.int .u8 116, .int .u8 64] 5))) := ⟨h.alloc _, (Below.refl _ _).alloc h.size _⟩
  have HP : Hid (∀ W V, PW W B b [] V → Calls Try.prog 44 #[.pointer (some ⟨b, 0, none⟩), .string t6] W fun e w' => PEnds B b W [4, 34, 77, 24, 116, 64] e w') := fun W V h1 => by
    have := put_ok W B b [] V h1 t6 (by decide)
    rw [t6_bytes] at this
    exact this
  have HS : Hid (∀ W, Calls Try.prog 34 #[.string hd2] W fun e w' => e = .returned (.int .i64 (hsum hd2 / 256 % 256 : Nat)) ∧ Below W.heap.size W w') := fun W => headSum_ok hd2 W (by decide)
  have ht6 : ({ data := #[4, 34, 77, 24] } : ByteArray) ++ hd2 = t6 := rfl
  have hsz : ¬ (9223372036854775807 : Int) < 4 + (hd2.size : Int) := by decide
  have hx : hsum hd2 / 256 % 256 < 256 := by omega
  unfold frHead
  obtain ⟨x, hxx⟩ : ∃ x, hsum hd2 / 256 % 256 = x := ⟨_, rfl⟩
  rw [hxx] at HS hx ⊢
  have hxm : (x : Int) % 256 = (x : Int) := by omega
  have hxw : IntKind.u8.wrap (x : Int) = (x : Int) := by rw [IntKind.wrap_u8]; omega
  obtain ⟨i0, hi0, hz0, hz1, hz2⟩ := info_parts infoB
  have HI : Hid (_ ∧ _ ∧ _ ∧ _) := ⟨hi0, hz0, hz1, hz2⟩
  clear hxx hi0 hz0 hz1 hz2 h
  go_enter Try.func26, Try.ntmps26
  go_wp2_with fail
  refine (HP.out _ _ H0.out.1).mono ?_
  rintro e w1 ⟨rfl, ⟨v1, hU1⟩, hb1⟩
  have H1 : Hid (PW w1 B b [4, 34, 77, 24, 116, 64] v1 ∧ Below B w w1) := ⟨hU1, H0.out.2.trans hb1⟩
  obtain ⟨ao0, cp0, hv⟩ := hU1.form
  simp only [List.length_cons, List.length_nil] at hv
  subst hv
  obtain ⟨c0, f0⟩ := hU1.cells
  clear hU1 hb1 hcv H0
  go_wp2_with fail
  go_region_law
    (first
      | (refine step_append_lies _ rfl _ _ 30 rfl B 5 i0 (.int .u8 0) 1 1 Try.underlying30 HI.out.1 HI.out.2.1 HI.out.2.2.1 HI.out.2.2.2 rfl (by decide) (.slice ao0 6 cp0) 6 (bcells [4, 34, 77, 24, 116, 64]) rfl (H3.out.1.alloc _).own ⟨w3.heap.size, 0, none⟩ 1 1 [.int .u8 (x : Nat)] rfl rfl (news1 w3 _ _) (oneB _) (by decide) (by decide) (by decide) (H3.out.1.alloc _).size _ rfl ?_; intro g3 cap3 wc hown hgrow hat hgl; obtain ⟨z0, z1, z3, z4⟩ := (H3.out.1.alloc _).one hx rfl (by decide) hown hgrow; have HZ : Hid _ := (⟨z3, z4⟩ : _ ∧ _); clear z3 z4 hown hgrow hat hgl)
      | (go_simp; go_at_call 34; refine (HS.out _).mono ?_; rintro e w3 ⟨rfl, hb3⟩; have H3 : Hid (PW w3 B b [4, 34, 77, 24, 116, 64] (.slice ao0 6 cp0) ∧ Below B w w3) := ⟨(H1.out.1.drewN 1).call hb3, H1.out.2.trans ((Below.drewN' _ _ 1).trans (hb3.mono H1.out.1.size))⟩; obtain ⟨x0, y0⟩ := H3.out.1.cells; have x1 := (H3.out.1.alloc (.cells #[.int .u8 (x : Int)] 5)).cells.1; clear hb3))
  all_goals
    go_wp2
    go_end0
    exact ⟨rfl, ⟨_, HZ.out.1⟩, H3.out.2.trans (((Below.refl _ _).alloc H3.out.1.size _).trans HZ.out.2)⟩
end Go.Proofs.Ytbncfpbehahidaa
namespace Go.Proofs.Ytbncfpbehahidaa
open Go.RowKit
set_option linter.unusedVariables false
set_option maxRecDepth 20000

theorem or31 (n : Nat) (h : n < 2147483648) : bits .or .i64 (n : Int) 2147483648 = ((2147483648 + n : Nat) : Int) := by
  have h1 := S2.i64_or_nat n 2147483648 (by omega) (by omega)
  rw [show ((2147483648 : Nat) : Int) = 2147483648 from rfl] at h1
  rw [h1, Nat.or_comm, nat_join 31 2147483648 n (by decide) h]
theorem or0 (n : Nat) (h : n < 2147483648) : bits .or .i64 (n : Int) 0 = (n : Int) := by
  have h1 := S2.i64_or_nat n 0 (by omega) (by omega)
  rw [show ((0 : Nat) : Int) = 0 from rfl] at h1
  rw [h1, Nat.or_zero]
/-- A block: its number, its bytes, their sum. -/
def blockL (p : ByteArray) : List Nat := if (packL p).length < p.size then le4 (packL p).length ++ packL p ++ le4 (hsum (toBA (packL p))) else le4 (2147483648 + p.size) ++ bytesOf p ++ le4 (hsum p)
theorem blockL_length (p : ByteArray) : (blockL p).length ≤ p.size + 8 := by
  unfold blockL
  split
  · simp [le4_length]; omega
  · simp [le4_length, bytesOf_length]; omega
theorem blockL_bytes (p : ByteArray) : Bytes (blockL p) := by
  unfold blockL
  split
  · exact ((le4_bytes _).append (packL_bytes p)).append (le4_bytes _)
  · exact ((le4_bytes _).append (bytesOf_bytes p)).append (le4_bytes _)
/-- The last steps of putBlock: a number, bytes, their sum. -/
theorem three_ok (B b : Nat) (l : List Nat) (held : ByteArray) (N : Nat) (hN : N < 4294967296) (hh : held.size ≤ 1048576) (hl : l.length + (held.size + 8) ≤ 16777216) :
    (∀ W V, PW W B b l V → Calls Try.prog 29 #[.pointer (some ⟨b, 0, none⟩), .int .i64 (N : Nat)] W fun e w' => PEnds B b W (l ++ le4 N) e w') ∧
    (∀ W V, PW W B b (l ++ le4 N) V → Calls Try.prog 44 #[.pointer (some ⟨b, 0, none⟩), .string held] W fun e w' => PEnds B b W (l ++ le4 N ++ bytesOf held) e w') ∧
    (∀ W, Calls Try.prog 30 #[.string held] W fun e w' => e = .returned (.int .i64 (hsum held : Nat)) ∧ Below W.heap.size W w') ∧
    (∀ W V, PW W B b (l ++ le4 N ++ bytesOf held) V → Calls Try.prog 29 #[.pointer (some ⟨b, 0, none⟩), .int .i64 (hsum held : Nat)] W fun e w' => PEnds B b W (l ++ le4 N ++ bytesOf held ++ le4 (hsum held)) e w') := by
  refine ⟨fun W V h => putNumber_ok W B b l V h N hN (by omega), fun W V h => put_ok W B b _ V h held ?_, fun W => sumOf_ok held W (by omega), fun W V h => putNumber_ok W B b _ V h _ (hsum_lt _) ?_⟩
  · rw [List.length_append, le4_length]; omega
  · rw [List.length_append, List.length_append, le4_length, bytesOf_length]; omega
set_option maxHeartbeats 2000000 in
theorem putBlock_ok (w : World) (B b : Nat) (l : List Nat) (v : Value) (h : PW w B b l v) (p : ByteArray) (hp : p.size ≤ 1048576) (hl : l.length + (p.size + 8) ≤ 16777216) :
    Calls Try.prog 28 #[.pointer (some ⟨b, 0, none⟩), .string p] w fun e w' => PEnds B b w (l ++ blockL p) e w' := by
  have HU : Hid (PW w B b l v) := h
  have HPK : Hid (∀ W, Calls Try.prog 45 #[.string p] W fun e w' => e = .returned (.tuple #[.string (toBA (packL p)), .int .i64 0]) ∧ Below W.heap.size W w') := fun W => pack_ok p W hp
  have hzs : (toBA (packL p)).size = (packL p).length := toBA_size _
  unfold blockL
  by_cases hlt : (packL p).length < p.size
  · rw [if_pos hlt]
    have hzb := bytesOf_toBA (packL p) (packL_bytes p)
    obtain ⟨z, hz⟩ : ∃ z, toBA (packL p) = z := ⟨_, rfl⟩
    rw [hz] at HPK hzs hzb ⊢
    rw [← hzs] at hlt ⊢
    rw [← hzb]
    obtain ⟨q1, q2, q3, q4⟩ := three_ok B b l z z.size (by omega) (by omega) (by omega)
    have HQ : Hid (_ ∧ _ ∧ _ ∧ _) := ⟨q1, q2, q3, q4⟩
    have hor := or0 z.size (by omega)
    have hlti : (z.size : Int) < (p.size : Int) := by omega
    rw [← List.append_assoc, ← List.append_assoc]
    have HOR : Hid (_ = (z.size : Int)) := hor
    clear h hz hzs hzb hlt q1 q2 q3 q4 hor
    go_enter Try.func28, Try.ntmps28
    go_wp2_with fail
    refine (HPK.out _).mono ?_
    rintro e w1 ⟨rfl, hb1⟩
    have H1 : Hid (PW w1 B b l v ∧ Below B w w1) := ⟨HU.out.call hb1, hb1.mono HU.out.size⟩
    clear hb1
    go_wp2_with fail
    rw [HOR.out]
    refine (HQ.out.1 _ _ H1.out.1).mono ?_
    rintro e w2 ⟨rfl, ⟨v2, hU2⟩, hb2⟩
    have H2 : Hid (PW w2 B b (l ++ le4 z.size) v2 ∧ Below B w w2) := ⟨hU2, H1.out.2.trans hb2⟩
    clear hU2 hb2
    go_wp2_with fail
    refine (HQ.out.2.1 _ _ H2.out.1).mono ?_
    rintro e w3 ⟨rfl, ⟨v3, hU3⟩, hb3⟩
    have H3 : Hid (PW w3 B b (l ++ le4 z.size ++ bytesOf z) v3 ∧ Below B w w3) := ⟨hU3, H2.out.2.trans hb3⟩
    clear hU3 hb3
    go_wp2_with fail
    refine (HQ.out.2.2.1 _).mono ?_
    rintro e w4 ⟨rfl, hb4⟩
    have H4 : Hid (PW w4 B b (l ++ le4 z.size ++ bytesOf z) v3 ∧ Below B w w4) := ⟨H3.out.1.call hb4, H3.out.2.trans (hb4.mono H3.out.1.size)⟩
    clear hb4
    go_wp2_with fail
    refine (HQ.out.2.2.2 _ _ H4.out.1).mono ?_
    rintro e w5 ⟨rfl, hU5, hb5⟩
    go_wp2
    go_end0
    exact ⟨rfl, hU5, H4.out.2.trans hb5⟩
  · rw [if_neg hlt]
    obtain ⟨z, hz⟩ : ∃ z, toBA (packL p) = z := ⟨_, rfl⟩
    rw [hz] at HPK hzs
    rw [← hzs] at hlt
    obtain ⟨q1, q2, q3, q4⟩ := three_ok B b l p (2147483648 + p.size) (by omega) (by omega) (by omega)
    have HQ : Hid (_ ∧ _ ∧ _ ∧ _) := ⟨q1, q2, q3, q4⟩
    have hor := or31 p.size (by omega)
    have hlti : ¬ (z.size : Int) < (p.size : Int) := by omega
    rw [← List.append_assoc, ← List.append_assoc]
    have HOR : Hid (_ = ((2147483648 + p.size : Nat) : Int)) := hor
    clear h hz hzs hlt q1 q2 q3 q4 hor
    obtain ⟨N, hN⟩ : ∃ N, 2147483648 + p.size = N := ⟨_, rfl⟩
    rw [hN] at HQ HOR ⊢
    clear hN
    go_enter Try.func28, Try.ntmps28
    go_wp2_with fail
    refine (HPK.out _).mono ?_
    rintro e w1 ⟨rfl, hb1⟩
    have H1 : Hid (PW w1 B b l v ∧ Below B w w1) := ⟨HU.out.call hb1, hb1.mono HU.out.size⟩
    clear hb1
    go_wp2_with fail
    rw [HOR.out]
    refine (HQ.out.1 _ _ H1.out.1).mono ?_
    rintro e w2 ⟨rfl, ⟨v2, hU2⟩, hb2⟩
    have H2 : Hid (PW w2 B b (l ++ le4 N) v2 ∧ Below B w w2) := ⟨hU2, H1.out.2.trans hb2⟩
    clear hU2 hb2
    go_wp2_with fail
    refine (HQ.out.2.1 _ _ H2.out.1).mono ?_
    rintro e w3 ⟨rfl, ⟨v3, hU3⟩, hb3⟩
    have H3 : Hid (PW w3 B b (l ++ le4 N ++ bytesOf p) v3 ∧ Below B w w3) := ⟨hU3, H2.out.2.trans hb3⟩
    clear hU3 hb3
    go_wp2_with fail
    refine (HQ.out.2.2.1 _).mono ?_
    rintro e w4 ⟨rfl, hb4⟩
    have H4 : Hid (PW w4 B b (l ++ le4 N ++ bytesOf p) v3 ∧ Below B w w4) := ⟨H3.out.1.call hb4, H3.out.2.trans (hb4.mono H3.out.1.size)⟩
    clear hb4
    go_wp2_with fail
    refine (HQ.out.2.2.2 _ _ H4.out.1).mono ?_
    rintro e w5 ⟨rfl, hU5, hb5⟩
    go_wp2
    go_end0
    exact ⟨rfl, hU5, H4.out.2.trans hb5⟩
end Go.Proofs.Ytbncfpbehahidaa
namespace Go.Proofs.Ytbncfpbehahidaa
open Go.RowKit
set_option linter.unusedVariables false
set_option maxRecDepth 20000

/-- The blocks of a text from a place on. -/
def blksL (s : ByteArray) : Nat → Nat → List Nat
  | 0, _ => []
  | k + 1, a => if s.size ≤ a then [] else blockL (s.extract a (min (a + 65536) s.size)) ++ blksL s k (a + 65536)
theorem blksL_bytes (s : ByteArray) : ∀ k a, Bytes (blksL s k a)
  | 0, a => fun x hx => by simp [blksL] at hx
  | k + 1, a => by
    unfold blksL
    split
    · intro x hx; simp at hx
    · exact (blockL_bytes _).append (blksL_bytes s k _)
theorem blksL_end (s : ByteArray) (k a : Nat) (h : s.size ≤ a) : blksL s k a = [] := by
  cases k with
  | zero => rfl
  | succ k => unfold blksL; rw [if_pos h]
/-- A frame. -/
def packFr (s : ByteArray) : List Nat := frHead ++ blksL s (s.size + 1) 0 ++ le4 0 ++ le4 (hsum s)
theorem frHead_bytes : Bytes frHead := by
  intro x hx
  simp only [frHead, List.mem_cons, List.not_mem_nil, or_false] at hx
  omega
theorem packFr_bytes (s : ByteArray) : Bytes (packFr s) := ((frHead_bytes.append (blksL_bytes s _ _)).append (le4_bytes _)).append (le4_bytes _)
theorem extract_front (s : ByteArray) (a n : Nat) (h : a + n ≤ s.size) : (s.extract a s.size).extract 0 n = s.extract a (a + n) := by
  rw [ByteArray.extract_extract]
  congr 1
  omega
theorem extract_back (s : ByteArray) (a n m : Nat) (hm : m = (s.extract a s.size).size) (h : a ≤ s.size) : (s.extract a s.size).extract n m = s.extract (a + n) s.size := by
  rw [ByteArray.extract_extract]
  rw [ByteArray.size_extract] at hm
  congr 1
  omega
theorem isEmpty_eq (L : ByteArray) : L.toList.isEmpty = decide (L.size = 0) := by
  rw [ByteArray.toList_eq]
  have : L.size = L.data.toList.length := (Array.length_toList).symm
  rw [this]
  cases L.data.toList <;> simp
theorem blockMost4 (w : World) : Calls Try.prog 27 #[.int .i64 4] w fun e w' => e = .returned (.int .i64 65536) ∧ w' = w := blockMost_ok 4 (by omega) w
theorem fpack_long (s : ByteArray) (w : World) (h : 1048576 < s.size) : Calls Try.prog 12 #[.string s] w fun e w' => e = .returned (.tuple #[.string ⟨#[]⟩, .int .i64 4]) ∧ Below w.heap.size w w' := by
  have hi : (1048576 : Int) < (s.size : Int) := by omega
  go_enter Try.func12, Try.ntmps12
  go_wp2
  go_ret2
  exact ⟨rfl, Below.refl _ _⟩
set_option maxHeartbeats 2000000 in
theorem fpack_ok (s : ByteArray) (w : World) (hs : s.size ≤ 1048576) : Calls Try.prog 12 #[.string s] w fun e w' => e = .returned (.tuple #[.string (toBA (packFr s)), .int .i64 0]) ∧ Below w.heap.size w w' := by
  have hi : ¬ (1048576 : Int) < (s.size : Int) := by omega
  have H0 : Hid (PW (w.alloc (.cells #[.slice none 0 0] 48)) w.heap.size w.heap.size [] (.slice none 0 0) ∧ Below w.heap.size w (w.alloc (.cells #[.slice none 0 0] 48))) :=
    ⟨⟨heap_alloc_new _ _, World.ownsRow_nil _ _ _ _, Nat.le_refl _, by decide, fun x hx => by simp at hx⟩, (Below.refl _ _).alloc (Nat.le_refl _) _⟩
  go_enter Try.func12, Try.ntmps12
  go_wp2_with fail
  refine (putHead_ok _ _ _ _ H0.out.1).mono ?_
  rintro e w1 ⟨rfl, ⟨v1, hU1⟩, hb1⟩
  have H1 : Hid (PW w1 w.heap.size w.heap.size frHead v1 ∧ Below w.heap.size w w1) := ⟨hU1, H0.out.2.trans hb1⟩
  clear hU1 hb1 H0
  go_wp2_with fail
  go_loopw [5] (fun v5 wr => ∃ (L : ByteArray), v5 = .string L ∧ L.size ≤ s.size ∧ Hid (∃ a l k v, L = s.extract a s.size ∧ PW wr w.heap.size w.heap.size l v ∧ Below w.heap.size w wr ∧ l.length ≤ 7 + 2 * a ∧ a ≤ s.size + 65536 ∧ l ++ blksL s k a = frHead ++ blksL s (s.size + 1) 0 ∧ s.size - a < k)) (fun v5 _ => match v5 with | .string L => L.size | _ => 0)
  case atStart => exact ⟨s, rfl, Nat.le_refl _, 0, frHead, s.size + 1, v1, by simp, H1.out.1, H1.out.2, by decide, by omega, rfl, by omega⟩
  case round =>
    obtain ⟨L, rfl, hLs, HS⟩ := hrel
    obtain ⟨a, l, k, v, hL, hU, hF, hll, has, hbl, hk⟩ := HS.out
    have hsz : L.size = s.size - a := by rw [hL, ByteArray.size_extract]; omega
    have hem := isEmpty_eq L
    by_cases h0 : L.size = 0
    · rw [decide_eq_true h0] at hem
      rw [blksL_end s k a (by omega), List.append_nil] at hbl
      have hl2 : l.length + 8 ≤ 16777216 := by omega
      have HE : Hid (PW wr w.heap.size w.heap.size l v ∧ Below w.heap.size w wr ∧ l = frHead ++ blksL s (s.size + 1) 0) := ⟨hU, hF, hbl⟩
      have HN0 : Hid (∀ W V, PW W w.heap.size w.heap.size l V → Calls Try.prog 29 #[.pointer (some ⟨w.heap.size, 0, none⟩), .int .i64 0] W fun e w' => PEnds w.heap.size w.heap.size W (l ++ le4 0) e w') := fun W V h1 => putNumber_ok W _ _ l V h1 0 (by omega) (by omega)
      have HSM : Hid (∀ W, Calls Try.prog 30 #[.string s] W fun e w' => e = .returned (.int .i64 (hsum s : Nat)) ∧ Below W.heap.size W w') := fun W => sumOf_ok s W (by omega)
      have HN1 : Hid (∀ W V, PW W w.heap.size w.heap.size (l ++ le4 0) V → Calls Try.prog 29 #[.pointer (some ⟨w.heap.size, 0, none⟩), .int .i64 (hsum s : Nat)] W fun e w' => PEnds w.heap.size w.heap.size W (packFr s) e w') := fun W V h1 => by
        have := putNumber_ok W _ _ (l ++ le4 0) V h1 (hsum s) (hsum_lt s) (by rw [List.length_append, le4_length]; omega)
        rw [hbl] at this
        exact this
      clear hL hU hF hll has hbl hk hsz h0 hl2 HS
      go_wp2_with fail
      refine (HN0.out _ _ HE.out.1).mono ?_
      rintro e w2 ⟨rfl, ⟨v2, hU2⟩, hb2⟩
      have H2 : Hid (PW w2 w.heap.size w.heap.size (l ++ le4 0) v2 ∧ Below w.heap.size w w2) := ⟨hU2, HE.out.2.1.trans hb2⟩
      clear hU2 hb2
      go_wp2_with fail
      refine (HSM.out _).mono ?_
      rintro e w3 ⟨rfl, hb3⟩
      have H3 : Hid (PW w3 w.heap.size w.heap.size (l ++ le4 0) v2 ∧ Below w.heap.size w w3) := ⟨H2.out.1.call hb3, H2.out.2.trans (hb3.mono H2.out.1.size)⟩
      clear hb3
      go_wp2_with fail
      refine (HN1.out _ _ H3.out.1).mono ?_
      rintro e w4 ⟨rfl, ⟨v4, hU4⟩, hb4⟩
      have H4 : Hid (PW w4 w.heap.size w.heap.size (packFr s) v4 ∧ Below w.heap.size w w4) := ⟨hU4, H3.out.2.trans hb4⟩
      obtain ⟨ao, cp, hv⟩ := hU4.form
      have hcv := conv_row w4 30 9 5 w.heap.size v4 (packFr s) Try.underlying30 Try.underlying5 Try.underlying9 hU4.own hU4.bytes
      obtain ⟨c0, f0⟩ := hU4.cells
      obtain ⟨Q, hQ⟩ : ∃ Q, (packFr s).length = Q := ⟨_, rfl⟩
      rw [hQ] at hv
      subst hv
      clear hU4 hb4 hQ
      go_wp2
      go_ret2
      exact ⟨rfl, H4.out.2⟩
    · rw [decide_eq_false h0] at hem
      obtain ⟨n, hn⟩ : ∃ n, min L.size 65536 = n := ⟨_, rfl⟩
      have hif : (if (65536 : Int) < (L.size : Int) then (65536 : Int) else (L.size : Int)) = (n : Int) := by
        split <;> omega
      have hnL : n ≤ L.size := by omega
      have hn1 : 1 ≤ n := by omega
      have hn0 : (n : Int) ≤ (L.size : Int) := by omega
      have hla : l.length + (n + 8) ≤ 16777216 := by omega
      have hp1 : L.extract 0 n = s.extract a (min (a + 65536) s.size) := by
        rw [hL, extract_front s a n (by omega)]
        congr 1; omega
      obtain ⟨k, rfl⟩ : ∃ k', k = k' + 1 := ⟨k - 1, by omega⟩
      unfold blksL at hbl
      rw [if_neg (by omega), ← hp1, ← List.append_assoc] at hbl
      have hpl : (L.extract 0 n).size ≤ n := by rw [ByteArray.size_extract]; omega
      have HB : Hid (∀ W, PW W w.heap.size w.heap.size l v → Calls Try.prog 28 #[.pointer (some ⟨w.heap.size, 0, none⟩), .string (L.extract 0 n)] W fun e w' => PEnds w.heap.size w.heap.size W (l ++ blockL (L.extract 0 n)) e w') := fun W h1 => putBlock_ok W _ _ l v h1 _ (by omega) (by omega)
      have HN : Hid (∀ W V, PW W w.heap.size w.heap.size (l ++ blockL (L.extract 0 n)) V → Below w.heap.size wr W → ∃ a l k v, L.extract n L.size = s.extract a s.size ∧ PW W w.heap.size w.heap.size l v ∧ Below w.heap.size w W ∧ l.length ≤ 7 + 2 * a ∧ a ≤ s.size + 65536 ∧ l ++ blksL s k a = frHead ++ blksL s (s.size + 1) 0 ∧ s.size - a < k) := fun W V h1 h2 => by
        refine ⟨a + 65536, _, k, V, ?_, h1, hF.trans h2, ?_, by omega, hbl, by omega⟩
        · rw [hL, extract_back s a n _ (by rw [← hL]) (by omega)]
          by_cases hc : 65536 ≤ L.size
          · rw [show n = 65536 by omega]
          · have e1 : ∀ q, s.size ≤ q → s.extract q s.size = ⟨#[]⟩ := fun q hq => by
              apply ByteArray.ext
              rw [ByteArray.data_extract]
              exact Array.extract_empty_of_stop_le_start hq
            rw [e1 _ (by omega), e1 _ (by omega)]
        · have := blockL_length (L.extract 0 n)
          rw [List.length_append]; omega
      have HM : Hid ((L.extract n L.size).size < L.size ∧ (L.extract n L.size).size ≤ s.size) := by
        show _ ∧ _
        rw [ByteArray.size_extract]; omega
      have HE : Hid (PW wr w.heap.size w.heap.size l v) := hU
      obtain ⟨P, hP⟩ : ∃ P, L.extract 0 n = P := ⟨_, rfl⟩
      obtain ⟨R, hR⟩ : ∃ R, L.extract n L.size = R := ⟨_, rfl⟩
      rw [hP] at HB HN
      rw [hR] at HN HM
      clear hL hU hF hll has hbl hk hsz h0 HS hp1 hpl hla hn
      go_wp2_with fail
      refine (blockMost4 _).mono ?_
      rintro e w2 ⟨rfl, rfl⟩
      go_wp2_with fail
      refine (HB.out _ HE.out).mono ?_
      rintro e w3 ⟨rfl, ⟨v3, hU3⟩, hb3⟩
      have HS3 : Hid _ := HN.out _ _ hU3 hb3
      clear hU3 hb3
      go_wp2
      go_roundw
      case rel => exact ⟨R, rfl, HM.out.2, HS3.out⟩
      case measure => exact HM.out.1
end Go.Proofs.Ytbncfpbehahidaa
