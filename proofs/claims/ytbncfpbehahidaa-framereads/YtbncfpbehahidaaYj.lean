/- Layer 6: a block that is written: its bytes. -/
import Derived.Test.YtbncfpbehahidaaYf
namespace Go.Proofs.Ytbncfpbehahidaa
open Go.RowKit
set_option linter.unusedVariables false
set_option maxRecDepth 20000

/-- Block b is a block that is written, whose bytes are l (they lie from block B on). -/
structure BW (w : World) (B b : Nat) (l : List Nat) (v : Value) : Prop where
  blk : w.heap[b]? = some (.cells #[v] 72 (0, 0))
  own : w.ownsRow B 5 1 v l.length (bcells l)
  hB : B ≤ b
theorem BW.cells {w : World} {B b : Nat} {l : List Nat} {v : Value} (h : BW w B b l v) : w.cell? ⟨b, 0, none⟩ = some v ∧ w.frozen? ⟨b, 0, none⟩ = false := by
  have h1 := h.blk
  exact ⟨by simp [World.cell?, h1], by simp [World.frozen?, h1]⟩
theorem BW.form {w : World} {B b : Nat} {l : List Nat} {v : Value} (h : BW w B b l v) : ∃ ao cp, v = .slice ao l.length cp := by
  rcases h.own.2 with ⟨e, h0⟩ | ⟨g, cap, cur, e, _⟩
  · exact ⟨none, 0, by rw [e, h0]⟩
  · exact ⟨_, _, e⟩
theorem BW.drewN {w : World} {B b : Nat} {l : List Nat} {v : Value} (h : BW w B b l v) (k : Nat) : BW (w.drewN k) B b l v := ⟨h.blk, h.own, h.hB⟩
theorem BW.size {w : World} {B b : Nat} {l : List Nat} {v : Value} (h : BW w B b l v) : B ≤ w.heap.size := Nat.le_trans h.hB (Nat.le_of_lt (lt_of_block h.blk))
theorem BW.alloc {w : World} {B b : Nat} {l : List Nat} {v : Value} (h : BW w B b l v) (o : Obj) : BW (w.alloc o) B b l v := by
  refine ⟨?_, h.own.alloc o, h.hB⟩
  rw [heap_alloc_old w o (lt_of_block h.blk)]; exact h.blk
/-- More bytes were appended. -/
theorem BW.grow {w w1 : World} {B b : Nat} {l m : List Nat} {v v1 : Value} (h : BW w B b l v) (hown : w1.ownsRow B 5 1 v1 (l.length + m.length) (bcells l ++ bcells m)) (hg : w.grownBy w1 v.ownBlock) :
    w1.cell? ⟨b, 0, none⟩ = some v ∧ w1.frozen? ⟨b, 0, none⟩ = false ∧ (∃ ao ln cp, v1 = .slice ao ln cp) ∧ BW (w1.setCell ⟨b, 0, none⟩ v1) B b (l ++ m) v1 ∧ Below B w (w1.setCell ⟨b, 0, none⟩ v1) := by
  have hbl := (kept_row h.blk (by decide) h.own hg).trans h.blk
  refine ⟨by simp [World.cell?, hbl], by simp [World.frozen?, hbl], ?_, ⟨block_setCell (i := 0) hbl, ?_, h.hB⟩, (Below.grown h.own hg h.size).trans (Below.setCell' w1 _ h.hB)⟩
  · rcases hown.2 with ⟨rfl, _⟩ | ⟨g, cap, cur, rfl, _⟩
    · exact ⟨_, _, _, rfl⟩
    · exact ⟨_, _, _, rfl⟩
  · rw [List.length_append, bcells_append]
    exact ownsRow_set hown hbl (by decide)
/-- One byte more, behind the cell in which it lay. -/
theorem BW.one {w w1 : World} {B b Q g cap : Nat} {l : List Nat} {v : Value} {x : Nat} {o : Obj} (h : BW w B b l v) (hQ : l.length = Q) (hown : w1.ownsRow B 5 1 (.slice (some ⟨g, 0, none⟩) (Q + 1) cap) (Q + 1) (bcells l ++ [.int .u8 (x : Nat)])) (hg : (w.alloc o).grownBy w1 v.ownBlock) :
    w1.cell? ⟨b, 0, none⟩ = some v ∧ w1.frozen? ⟨b, 0, none⟩ = false ∧ BW (w1.setCell ⟨b, 0, none⟩ (.slice (some ⟨g, 0, none⟩) (Q + 1) cap)) B b (l ++ [x]) (.slice (some ⟨g, 0, none⟩) (Q + 1) cap) ∧ Below B w (w1.setCell ⟨b, 0, none⟩ (.slice (some ⟨g, 0, none⟩) (Q + 1) cap)) := by
  have h1 := (h.alloc o).grow (m := [x]) (v1 := .slice (some ⟨g, 0, none⟩) (Q + 1) cap) (by rw [hQ]; exact hown) hg
  exact ⟨h1.1, h1.2.1, h1.2.2.2.1, ((Below.refl B w).alloc h.size o).trans h1.2.2.2.2⟩
/-- What four bits leave over of a number. -/
def fullL (n : Nat) : List Nat := List.replicate (n / 255) 255 ++ [n % 255]
def moreL (n : Nat) : List Nat := if n < 15 then [] else fullL (n - 15)
theorem moreL_length (n : Nat) : (moreL n).length ≤ n / 255 + 1 := by
  unfold moreL fullL
  split
  · simp
  · simp
    have : (n - 15) / 255 ≤ n / 255 := Nat.div_le_div_right (by omega)
    omega
theorem moreL_bytes (n : Nat) : Bytes (moreL n) := by
  unfold moreL fullL
  split
  · intro x hx; simp at hx
  · intro x hx
    rcases List.mem_append.1 hx with h | h
    · rw [List.eq_of_mem_replicate h]; decide
    · rw [List.mem_singleton.1 h]; omega
set_option maxRecDepth 20000 in
set_option maxHeartbeats 4000000 in
theorem putMore_ok (w : World) (B b : Nat) (l : List Nat) (v : Value) (h : BW w B b l v) (n : Nat) (hn : n ≤ 1048576) (hl : l.length ≤ 16777216) :
    Calls Try.prog 65 #[.pointer (some ⟨b, 0, none⟩), .int .i64 n] w fun e w' => e = .returned (.tuple #[]) ∧ (∃ v', BW w' B b (l ++ moreL n) v') ∧ Below B w w' := by
  have H : Hid (BW w B b l v) := h
  clear h
  by_cases h15 : n < 15
  · have hi : (n : Int) < 15 := by omega
    go_enter Try.func65, Try.ntmps65
    go_wp2
    try simp only [Exit.inBlock, Exit.then]
    refine bodyPost_ret (results_none rfl _ _ _) rfl ?_
    refine ⟨rfl, ⟨v, ?_⟩, Below.refl _ _⟩
    unfold moreL
    rw [if_pos h15, List.append_nil]
    exact H.out
  · have hi : ¬ (n : Int) < 15 := by omega
    obtain ⟨N, hN⟩ : ∃ N, n - 15 = N := ⟨_, rfl⟩
    have hNi : (n : Int) - 15 = (N : Int) := by omega
    have HE : Hid (moreL n = fullL N) := by show _ = _; unfold moreL; rw [if_neg h15, hN]
    have hNb : N ≤ 1048576 := by omega
    clear hN
    go_enter Try.func65, Try.ntmps65
    go_wp2_with fail
    clear hNi hi
    go_loopw [1] (fun v1 wr => ∃ M : Nat, v1 = .int .i64 M ∧ M ≤ N ∧ Hid (∃ k v', N = 255 * k + M ∧ BW wr B b (l ++ List.replicate k 255) v' ∧ Below B w wr)) (fun v1 _ => (intOf v1).toNat)
    case atStart => exact ⟨N, rfl, Nat.le_refl _, 0, v, by omega, by simpa using H.out, Below.refl _ _⟩
    case round =>
      obtain ⟨M, rfl, hM, HS⟩ := hrel
      obtain ⟨k, v', hk, hS, hF⟩ := HS.out
      obtain ⟨K, hK⟩ : ∃ K, l ++ List.replicate k 255 = K := ⟨_, rfl⟩
      rw [hK] at hS
      obtain ⟨ao, cp, hv⟩ := hS.form
      obtain ⟨Q, hQ⟩ : ∃ Q, K.length = Q := ⟨_, rfl⟩
      rw [hQ] at hv
      subst hv
      obtain ⟨c0, f0⟩ := hS.cells
      have HS2 : Hid (BW wr B b K (.slice ao Q cp) ∧ Below B w wr ∧ K.length = Q ∧ N = 255 * k + M ∧ l ++ List.replicate k 255 = K) := ⟨hS, hF, hQ, hk, hK⟩
      have hQb : Q + 1 ≤ 140737488355328 := by
        have : K.length = l.length + k := by rw [← hK]; simp
        omega
      obtain ⟨i0, hi0, hz0, hz1, hz2⟩ := info_parts infoB
      have HO : Hid (wr.ownsRow B 5 1 (.slice ao Q cp) Q (bcells K) ∧ B ≤ wr.heap.size) := ⟨by have := hS.own; rw [hQ] at this; exact this, hS.size⟩
      clear hS hF hk hQ hK HS
      by_cases h255 : M < 255
      · have h255i : ¬ (255 : Int) ≤ (M : Int) := by omega
        have hMw : IntKind.u8.wrap (M : Int) = (M : Int) := by rw [IntKind.wrap_u8]; omega
        go_wp2_with (at_builtin; refine wpList_append_lies _ rfl _ _ 30 rfl B 5 i0 (.int .u8 0) 1 1 Try.underlying30 hi0 hz0 hz1 hz2 rfl (by decide) (.slice ao Q cp) Q (bcells K) rfl (HO.out.1.alloc _) ⟨wr.heap.size, 0, none⟩ 1 1 [.int .u8 (M : Nat)] rfl rfl (news1 wr _ _) (oneB _) (by decide) (by unfold maxLen; omega) (by omega) (Nat.le_trans HO.out.2 (by simp)) _ rfl ?_)
        intro g3 cap3 wc hown hgrow hat hgl
        obtain ⟨z1, z2, z3, z4⟩ := HS2.out.1.one HS2.out.2.2.1 hown hgrow
        have HZ : Hid _ := (⟨z3, z4⟩ : _ ∧ _)
        clear z3 z4 hown hgrow hat hgl hi0 hz0 hz1 hz2
        go_wp2
        go_end0
        refine ⟨rfl, ⟨.slice (some ⟨g3, 0, none⟩) (Q + 1) cap3, ?_⟩, HS2.out.2.1.trans HZ.out.2⟩
        have e : l ++ moreL n = K ++ [M] := by
          rw [HE.out, ← HS2.out.2.2.2.2]
          unfold fullL
          have e1 : N / 255 = k := by have := HS2.out.2.2.2.1; omega
          have e2 : N % 255 = M := by have := HS2.out.2.2.2.1; omega
          rw [e1, e2, List.append_assoc]
        rw [e]
        exact HZ.out.1
      · have h255i : (255 : Int) ≤ (M : Int) := by omega
        go_wp2_with (at_builtin; refine wpList_append_lies _ rfl _ _ 30 rfl B 5 i0 (.int .u8 0) 1 1 Try.underlying30 hi0 hz0 hz1 hz2 rfl (by decide) (.slice ao Q cp) Q (bcells K) rfl (HO.out.1.alloc _) ⟨wr.heap.size, 0, none⟩ 1 1 [.int .u8 (255 : Nat)] rfl rfl (news1 wr _ _) (oneB _) (by decide) (by unfold maxLen; omega) (by omega) (Nat.le_trans HO.out.2 (by simp)) _ rfl ?_)
        intro g3 cap3 wc hown hgrow hat hgl
        obtain ⟨z1, z2, z3, z4⟩ := HS2.out.1.one HS2.out.2.2.1 hown hgrow
        have HZ : Hid _ := (⟨z3, z4⟩ : _ ∧ _)
        clear z3 z4 hown hgrow hat hgl hi0 hz0 hz1 hz2
        have HN : Hid (∃ k' v', N = 255 * k' + (M - 255) ∧ BW (wc.setCell ⟨b, 0, none⟩ (.slice (some ⟨g3, 0, none⟩) (Q + 1) cap3)) B b (l ++ List.replicate k' 255) v' ∧ Below B w (wc.setCell ⟨b, 0, none⟩ (.slice (some ⟨g3, 0, none⟩) (Q + 1) cap3))) := by
          refine ⟨k + 1, .slice (some ⟨g3, 0, none⟩) (Q + 1) cap3, ?_, ?_, HS2.out.2.1.trans HZ.out.2⟩
          · have := HS2.out.2.2.2.1; omega
          · rw [List.replicate_succ', ← List.append_assoc, HS2.out.2.2.2.2]
            exact HZ.out.1
        obtain ⟨M', hM'⟩ : ∃ M', M - 255 = M' := ⟨_, rfl⟩
        have hMi : (M : Int) - 255 = (M' : Int) := by omega
        rw [hM'] at HN
        go_wp2
        exact ⟨⟨M', rfl, by omega, HN⟩, by simp [intOf]; omega⟩
end Go.Proofs.Ytbncfpbehahidaa
