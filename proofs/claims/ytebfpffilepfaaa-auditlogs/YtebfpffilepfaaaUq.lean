/- Layer 18: what must come, whatever the arguments are. -/
import Derived.Test.YtebfpffilepfaaaUm
namespace Go.Proofs.Ytebfpffilepfaaa
open Go.RowKit Go.Maps
set_option linter.unusedVariables false
set_option maxRecDepth 20000

theorem ain2 {w : World} {b : Nat} {t : TypeId} {x y : Ak} (h : w.heap[b]? = some (.cells #[.int .i64 x.step, .int .i64 x.prod, .int .i64 x.seq, .int .i64 x.err, .int .i64 x.base, .int .i64 x.cnt, .int .i64 y.step, .int .i64 y.prod, .int .i64 y.seq, .int .i64 y.err, .int .i64 y.base, .int .i64 y.cnt] t (0, 0))) : AIn w (some ⟨b, 0, none⟩) [x, y] := by
  intro i z hz
  match i, hz with
  | 0, hz =>
    obtain rfl : x = z := by simpa using hz
    exact ⟨b, 0, rfl, lt_of_block h, by simp [World.cell?, h], by simp [World.cell?, h], by simp [World.cell?, h], by simp [World.cell?, h], by simp [World.cell?, h], by simp [World.cell?, h]⟩
  | 1, hz =>
    obtain rfl : y = z := by simpa using hz
    exact ⟨b, 0, rfl, lt_of_block h, by simp [World.cell?, h], by simp [World.cell?, h], by simp [World.cell?, h], by simp [World.cell?, h], by simp [World.cell?, h], by simp [World.cell?, h]⟩
def kB : ByteArray := ⟨#[107]⟩
def emB : ByteArray := ⟨#[]⟩
theorem fin1 {w : World} {b c : Nat} {t t' : TypeId} (h : w.heap[b]? = some (.cells #[.int .i64 0, .int .i64 0, .int .i64 0, .int .i64 0, .slice (some ⟨c, 0, none⟩) 1 1] t (0, 0))) (hc : w.heap[c]? = some (.cells #[.int .i64 0, .string kB, .string emB, .bool false] t' (0, 0))) : FIn w (some ⟨b, 0, none⟩) [⟨0, 0, 0, 0, [⟨0, kB, emB, false⟩]⟩] := by
  intro i z hz
  match i, hz with
  | 0, hz =>
    obtain rfl : (⟨0, 0, 0, 0, [⟨0, kB, emB, false⟩]⟩ : Fe) = z := by simpa using hz
    refine ⟨b, 0, some ⟨c, 0, none⟩, 1, rfl, lt_of_block h, by simp [World.cell?, h], by simp [World.cell?, h], by simp [World.cell?, h], by simp [World.cell?, h], by simp [World.cell?, h], fun j r hr => ?_⟩
    match j, hr with
    | 0, hr =>
      obtain rfl : (⟨0, kB, emB, false⟩ : Rec) = r := by simpa using hr
      exact ⟨c, 0, rfl, lt_of_block hc, by simp [World.cell?, hc], by simp [World.cell?, hc], by simp [World.cell?, hc], by simp [World.cell?, hc]⟩
theorem ff1 : ffbad (zeros []) [] [⟨0, 0, 0, 0, [⟨0, kB, emB, false⟩]⟩] = some (3, 0) :=
  ffbad_yes (badF_none rfl (by simp [risesG, stepBad]) (fun r _ q hq => by simp [noted] at hq) (fun h => by
    have := h ⟨0, kB, emB, false⟩ (by simp)
    simp [zeros] at this)) (by omega)
set_option maxHeartbeats 4000000 in
theorem awake18 (w : World) : Calls Try.prog 8 #[] w fun e w' => e = .returned (.bool true) ∧ Below w.heap.size w w' := by
  have HA1 : Hid (∀ W b, AIn W (some ⟨b, 0, none⟩) [⟨0, 0, 0, 0, 0, 2⟩, ⟨0, 0, 1, 0, 1, 1⟩] → Calls Try.prog 5 #[.slice (some ⟨b, 0, none⟩) 2 2] W fun e w' => e = .returned (.tuple #[.int .i64 110, .int .i64 1]) ∧ Below W.heap.size W w') := fun W b h =>
    acks_ok (some ⟨b, 0, none⟩) 2 [⟨0, 0, 0, 0, 0, 2⟩, ⟨0, 0, 1, 0, 1, 1⟩] W h (fun a ha => by
      simp only [List.mem_cons, List.not_mem_nil, or_false] at ha
      rcases ha with rfl | rfl
      · exact ⟨⟨by simp, by simp⟩, ⟨by simp, by simp⟩⟩
      · exact ⟨⟨by simp, by simp⟩, ⟨by simp, by simp⟩⟩) (by simp)
  have HA2 : Hid (∀ W b, AIn W (some ⟨b, 0, none⟩) [⟨0, 0, 0, 0, 0, 2⟩, ⟨0, 0, 0, 0, 0, 2⟩] → Calls Try.prog 5 #[.slice (some ⟨b, 0, none⟩) 2 2] W fun e w' => e = .returned (.tuple #[.int .i64 0, .int .i64 0]) ∧ Below W.heap.size W w') := fun W b h =>
    acks_ok (some ⟨b, 0, none⟩) 2 [⟨0, 0, 0, 0, 0, 2⟩, ⟨0, 0, 0, 0, 0, 2⟩] W h (fun a ha => by
      simp only [List.mem_cons, List.not_mem_nil, or_false] at ha
      rcases ha with rfl | rfl
      · exact ⟨⟨by simp, by simp⟩, ⟨by simp, by simp⟩⟩
      · exact ⟨⟨by simp, by simp⟩, ⟨by simp, by simp⟩⟩) (by simp)
  have HF1 : Hid (∀ W b, FIn W (some ⟨b, 0, none⟩) [⟨0, 0, 0, 0, [⟨0, kB, emB, false⟩]⟩] → Calls Try.prog 6 #[.slice (some ⟨b, 0, none⟩) 1 1, .slice none 0 0] W fun e w' => e = .returned (.tuple #[.int .i64 3, .int .i64 0]) ∧ Below W.heap.size W w') := fun W b h => by
    have := fetches_ok (some ⟨b, 0, none⟩) 1 [⟨0, 0, 0, 0, [⟨0, kB, emB, false⟩]⟩] none 0 [] W h (fun i x hx => by simp at hx) (fun f hf => by
      rw [List.mem_singleton] at hf
      subst hf
      refine ⟨fun r hr => ?_, by simp⟩
      rw [List.mem_singleton] at hr
      subst hr
      exact ⟨⟨by simp, by simp⟩, (show (1 : Nat) ≤ 9223372036854775807 by omega), (show (0 : Nat) ≤ 9223372036854775807 by omega)⟩) (fun s hs => by simp at hs) (by simp) (by simp) (by simp [fsum]) (by simp [ssum])
    rw [ff1] at this
    exact this
  go_enter Try.func8, Try.ntmps8
  go_wp2_with fail
  refine (HA1.out _ _ (ain2 (x := ⟨0, 0, 0, 0, 0, 2⟩) (y := ⟨0, 0, 1, 0, 1, 1⟩) (heap_alloc_new _ _))).mono ?_
  rintro e w1 ⟨rfl, hb1⟩
  have HB1 : Hid (Below w.heap.size w w1) := (below_a w _).trans (hb1.mono (below_a w _).size)
  clear hb1
  go_wp2_with fail
  refine (HA2.out _ _ (ain2 (x := ⟨0, 0, 0, 0, 0, 2⟩) (y := ⟨0, 0, 0, 0, 0, 2⟩) (heap_alloc_new _ _))).mono ?_
  rintro e w2 ⟨rfl, hb2⟩
  have HB2 : Hid (Below w.heap.size w w2) := HB1.out.trans (((below_a w1 _).trans (hb2.mono (below_a w1 _).size)).mono HB1.out.size)
  clear hb2
  have hz2 : (w2.alloc (.cells #[.int .i64 0, .string ⟨#[107]⟩, .string ⟨#[]⟩, .bool false] 36)).heap.size = w2.heap.size + 1 := by simp
  have hFI : FIn ((w2.alloc (.cells #[.int .i64 0, .string ⟨#[107]⟩, .string ⟨#[]⟩, .bool false] 36)).alloc (.cells #[.int .i64 0, .int .i64 0, .int .i64 0, .int .i64 0, .slice (some ⟨w2.heap.size, 0, none⟩) 1 1] 40)) (some ⟨w2.heap.size + 1, 0, none⟩) [⟨0, 0, 0, 0, [⟨0, kB, emB, false⟩]⟩] := by
    refine fin1 (t := 40) (t' := 36) (c := w2.heap.size) ?_ ?_
    · rw [← hz2]; exact heap_alloc_new _ _
    · rw [(below_a _ _).block _ (by simp)]; exact heap_alloc_new _ _
  have HB3 : Hid (Below w.heap.size w ((w2.alloc (.cells #[.int .i64 0, .string ⟨#[107]⟩, .string ⟨#[]⟩, .bool false] 36)).alloc (.cells #[.int .i64 0, .int .i64 0, .int .i64 0, .int .i64 0, .slice (some ⟨w2.heap.size, 0, none⟩) 1 1] 40))) := bl_alloc (Nat.le_refl _) (bl_alloc (Nat.le_refl _) HB2.out)
  have HC3 : Hid (Calls Try.prog 6 #[.slice (some ⟨w2.heap.size + 1, 0, none⟩) 1 1, .slice none 0 0] ((w2.alloc (.cells #[.int .i64 0, .string ⟨#[107]⟩, .string ⟨#[]⟩, .bool false] 36)).alloc (.cells #[.int .i64 0, .int .i64 0, .int .i64 0, .int .i64 0, .slice (some ⟨w2.heap.size, 0, none⟩) 1 1] 40)) fun e w' => e = .returned (.tuple #[.int .i64 3, .int .i64 0]) ∧ Below w.heap.size w w') := (HF1.out _ _ hFI).mono fun e w' h => ⟨h.1, HB3.out.trans (h.2.mono HB3.out.size)⟩
  clear hFI hz2
  go_wp2_with fail
  refine HC3.out.mono ?_
  rintro e w3 ⟨rfl, hb3⟩
  have HB4 : Hid (Below w.heap.size w w3) := hb3
  clear hb3
  go_wp2_with fail
  go_ret
  exact ⟨rfl, HB4.out⟩
end Go.Proofs.Ytebfpffilepfaaa
