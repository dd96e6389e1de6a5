/- Layer 18: two rows that rise, one behind the other, are merged. -/
import Derived.Test.YtebfpffilepfaaaKb
namespace Go.Proofs.Ytebfpffilepfaaa
open Go.RowKit Go.Maps Go.Shelf Go.Shelf
set_option linter.unusedVariables false
set_option maxRecDepth 20000

theorem DUp.le {L : List Due} (h : DUp L) {i j : Nat} {x y : Due} (hi : L[i]? = some x) (hj : L[j]? = some y) (hij : i ≤ j) : x.off ≤ y.off := by
  rcases Nat.lt_or_ge i j with h1 | h1
  · have := h.lt hi hj h1; omega
  · have : i = j := by omega
    subst this
    rw [hi] at hj
    cases hj
    exact Int.le_refl _
def MergeOK (a : Option Addr) (cap : Nat) (L : List Due) (w0 : World) (n : Nat) : Prop := ∀ (lo m hi : Nat) (w : World), Below w0.heap.size w0 w → lo < m → m < hi → hi ≤ L.length → hi - lo < n →
  Calls Try.prog 32 #[.slice a L.length cap, .int .i64 (lo : Nat), .int .i64 (m : Nat), .int .i64 (hi : Nat), cmpF] w fun e w' => e = .returned (.tuple #[]) ∧ Below w.heap.size w w'
set_option maxHeartbeats 8000000 in
theorem merge_step (a : Option Addr) (cap : Nat) (L : List Due) (w0 : World) (hin0 : DIn w0 a L) (hup : DUp L) (hlen : L.length ≤ 2305843009213693951) (n : Nat) (ih : MergeOK a cap L w0 n) : MergeOK a cap L w0 (n + 1) := by
  intro lo m hi w hbw h1 h2 h3 h4
  have eg : ∀ args w, (callFunc 20 args).run Try.prog w = .ok (.enter 20 args) w := enters_of Try.func20 (by kernel_rfl) rfl
  have HIN : Hid (DIn w a L) := hin0.bel hbw
  have HUP : Hid (DUp L) := hup
  have HIH : Hid (∀ (lo' m' hi' : Nat) (W : World), Below w.heap.size w W → lo' < m' → m' < hi' → hi' ≤ L.length → hi' - lo' < n → Calls Try.prog 32 #[.slice a L.length cap, .int .i64 (lo' : Nat), .int .i64 (m' : Nat), .int .i64 (hi' : Nat), cmpF] W fun e w' => e = .returned (.tuple #[]) ∧ Below W.heap.size W w') := fun lo' m' hi' W hW g1 g2 g3 g4 => ih lo' m' hi' W (hbw.trans (hW.mono hbw.size)) g1 g2 g3 g4
  obtain ⟨len, hl⟩ : ∃ len, L.length = len := ⟨_, rfl⟩
  have HL : Hid (L.length = len) := hl
  rw [hl] at hlen h3 HIH ⊢
  clear hin0 hup hl ih hbw
  by_cases hm1 : m - lo = 1
  · have hm : lo + 1 = m := by omega
    have hmi : ((m : Nat) : Int) - (lo : Nat) = 1 := by omega
    go_enter Try.func32, Try.ntmps32
    go_wp2_with fail
    go_loopw [10, 11] (fun i j wr => ∃ J : Nat, i = .int .i64 (m : Nat) ∧ j = .int .i64 (J : Nat) ∧ m ≤ J ∧ J ≤ hi ∧ Below w.heap.size w wr) (fun _ j _ => (intOf j).toNat)
    case atStart => exact ⟨hi, rfl, rfl, by omega, by omega, Below.refl _ _⟩
    case round =>
      obtain ⟨J, rfl, rfl, hJ, hJ2, hB⟩ := hrel
      have HB : Hid (Below w.heap.size w wr) := hB
      have hwr : w.heap.size ≤ wr.heap.size := hB.size
      clear hB
      by_cases hlt : m < J
      · have hlti : (m : Int) < (J : Int) := by omega
        obtain ⟨H, hH⟩ : ∃ H, (m + J) / 2 = H := ⟨_, rfl⟩
        have hHb : m ≤ H ∧ H < J := by omega
        have hHl : H < len := by omega
        have hll : lo < len := by omega
        have hx : L[H]? = some (L[H]'(by have := HL.out; omega)) := List.getElem?_eq_getElem _
        have hy : L[lo]? = some (L[lo]'(by have := HL.out; omega)) := List.getElem?_eq_getElem _
        generalize (L[H]'(by have := HL.out; omega)) = x at hx
        generalize (L[lo]'(by have := HL.out; omega)) = y at hy
        have hxy : y.off ≤ x.off := HUP.out.le hy hx (by omega)
        obtain ⟨b, off, rfl, ⟨x0, x1, x2, x3, x4⟩, y0, y1, y2, y3, y4⟩ := (HIN.out.bel HB.out).two hx hy
        have HC : Hid (∀ W, Calls Try.prog 20 #[.agg #[.int .i64 x.rec'.off, .string x.rec'.key, .string x.rec'.val, .bool x.rec'.gone, .int .i64 x.step], .agg #[.int .i64 y.rec'.off, .string y.rec'.key, .string y.rec'.val, .bool y.rec'.gone, .int .i64 y.step]] W fun e w' => ∃ c : Int, e = .returned (.int .i64 c) ∧ 0 ≤ c ∧ Below W.heap.size W w') := fun W => (dcmp_ok x y W).mono fun e w' h => ⟨_, h.1, cmpV_ge hxy, h.2⟩
        clear hx hy hxy
        go_upto_region 5 with fail
        have hHi : ((m : Nat) + (J : Nat) : Int) / 2 = (H : Int) := by omega
        rw [hHi]
        clear hHi
        refine wp_region_held_drew (S := fun w' => w'.cell? ⟨b, off + H * 5, none⟩ = some (.int .i64 x.rec'.off) ∧ w'.cell? ⟨b, off + H * 5 + 1, none⟩ = some (.string x.rec'.key) ∧ w'.cell? ⟨b, off + H * 5 + 2, none⟩ = some (.string x.rec'.val) ∧ w'.cell? ⟨b, off + H * 5 + 3, none⟩ = some (.bool x.rec'.gone) ∧ w'.cell? ⟨b, off + H * 5 + 4, none⟩ = some (.int .i64 x.step) ∧ w'.cell? ⟨b, off + lo * 5, none⟩ = some (.int .i64 y.rec'.off) ∧ w'.cell? ⟨b, off + lo * 5 + 1, none⟩ = some (.string y.rec'.key) ∧ w'.cell? ⟨b, off + lo * 5 + 2, none⟩ = some (.string y.rec'.val) ∧ w'.cell? ⟨b, off + lo * 5 + 3, none⟩ = some (.bool y.rec'.gone) ∧ w'.cell? ⟨b, off + lo * 5 + 4, none⟩ = some (.int .i64 y.step)) (by kernel_rfl) ⟨x0, x1, x2, x3, x4, y0, y1, y2, y3, y4⟩ (fun hHeld => ?_)
        refine wpAnyH_take (i := 0) (v := ?v0ma) rfl (by kernel_rfl) (by kernel_rfl) (by kernel_rfl) (fun _ _ _ h => h) (Or.inl ⟨by rfl, fun w hSw => ?hy0ma⟩) hHeld ?rest0ma
        case hy0ma =>
          try dsimp only at hSw
          go_simp
          try with_reducible rfl
        simp only [Act.put, List.setIfInBounds_toArray, List.set_cons_zero, List.set_cons_succ, List.getElem_toArray, List.getElem_cons_zero]
        refine wpAnyH_take (i := 1) (v := ?v1ma) rfl (by kernel_rfl) (by kernel_rfl) (by kernel_rfl) (fun _ _ _ h => h) (Or.inl ⟨by rfl, fun w hSw => ?hy1ma⟩) hHeld ?rest1ma
        case hy1ma =>
          try dsimp only at hSw
          go_simp
          try with_reducible rfl
        simp only [Act.put, List.setIfInBounds_toArray, List.set_cons_zero, List.set_cons_succ, List.getElem_toArray, List.getElem_cons_zero, List.getElem_cons_succ]
        refine wpAnyH_take (i := 2) (v := ?v2ma) rfl (by kernel_rfl) (by kernel_rfl) (by kernel_rfl) (fun _ _ _ h => h) (Or.inl ⟨by rfl, fun w hSw => ?hy2ma⟩) hHeld ?rest2ma
        case hy2ma =>
          try dsimp only at hSw
          go_simp
          try with_reducible rfl
        simp only [Act.put, List.setIfInBounds_toArray, List.set_cons_zero, List.set_cons_succ, List.getElem_toArray, List.getElem_cons_zero, List.getElem_cons_succ]
        refine wpAnyH_take (i := 3) (v := ?v3ma) rfl (by kernel_rfl) (by kernel_rfl) (by kernel_rfl) (fun _ _ _ h => h) (Or.inl ⟨by rfl, fun w hSw => ?hy3ma⟩) hHeld ?rest3ma
        case hy3ma =>
          try dsimp only at hSw
          go_simp
          try with_reducible rfl
        simp only [Act.put, List.setIfInBounds_toArray, List.set_cons_zero, List.set_cons_succ, List.getElem_toArray, List.getElem_cons_zero, List.getElem_cons_succ]
        refine wpAnyH_take (i := 4) (v := ?v4ma) rfl (by kernel_rfl) (by kernel_rfl) (by kernel_rfl) (fun _ _ _ h => h) (Or.inl ⟨by rfl, fun w hSw => ?hy4ma⟩) hHeld ?rest4ma
        case hy4ma =>
          try dsimp only at hSw
          go_simp
          try with_reducible rfl
        simp only [Act.put, List.setIfInBounds_toArray, List.set_cons_zero, List.set_cons_succ, List.getElem_toArray, List.getElem_cons_zero, List.getElem_cons_succ]
        refine wpAnyH_take (i := 5) (v := ?v5ma) rfl (by kernel_rfl) (by kernel_rfl) (by kernel_rfl) (fun _ _ _ h => h) (Or.inl ⟨by rfl, fun w hSw => ?hy5ma⟩) hHeld ?rest5ma
        case hy5ma =>
          try dsimp only at hSw
          go_simp
          try with_reducible rfl
        simp only [Act.put, List.setIfInBounds_toArray, List.set_cons_zero, List.set_cons_succ, List.getElem_toArray, List.getElem_cons_zero, List.getElem_cons_succ]
        refine wpAnyH_take (i := 6) (v := ?v6ma) rfl (by kernel_rfl) (by kernel_rfl) (by kernel_rfl) (fun _ _ _ h => h) (Or.inl ⟨by rfl, fun w hSw => ?hy6ma⟩) hHeld ?rest6ma
        case hy6ma =>
          try dsimp only at hSw
          go_simp
          try with_reducible rfl
        simp only [Act.put, List.setIfInBounds_toArray, List.set_cons_zero, List.set_cons_succ, List.getElem_toArray, List.getElem_cons_zero, List.getElem_cons_succ]
        refine wpAnyH_take (i := 7) (v := ?v7ma) rfl (by kernel_rfl) (by kernel_rfl) (by kernel_rfl) (fun _ _ _ h => h) (Or.inl ⟨by rfl, fun w hSw => ?hy7ma⟩) hHeld ?rest7ma
        case hy7ma =>
          try dsimp only at hSw
          go_simp
          try with_reducible rfl
        simp only [Act.put, List.setIfInBounds_toArray, List.set_cons_zero, List.set_cons_succ, List.getElem_toArray, List.getElem_cons_zero, List.getElem_cons_succ]
        refine wpAnyH_take (i := 8) (v := ?v8ma) rfl (by kernel_rfl) (by kernel_rfl) (by kernel_rfl) (fun _ _ _ h => h) (Or.inl ⟨by rfl, fun w hSw => ?hy8ma⟩) hHeld ?rest8ma
        case hy8ma =>
          try dsimp only at hSw
          go_simp
          try with_reducible rfl
        simp only [Act.put, List.setIfInBounds_toArray, List.set_cons_zero, List.set_cons_succ, List.getElem_toArray, List.getElem_cons_zero, List.getElem_cons_succ]
        refine wpAnyH_ready (rs := [9]) (by kernel_rfl) (by simp) ?_
        refine AllReadyH.cons rfl (fun K hK => ?_) AllReadyH.nil
        go_simp
        refine (HC.out _).mono ?_
        rintro e w1 ⟨cc, rfl, hcc, hb1'⟩
        have hb1 : Below wr.heap.size wr w1 := ⟨hb1'.os, hb1'.tape, hb1'.output, hb1'.size, hb1'.block⟩
        have HB1 : Hid (Below w.heap.size w w1) := HB.out.trans (hb1.mono hwr)
        have hcn : decide (cc < 0) = false := decide_eq_false (by omega)
        clear hcc
        clear hHeld
        go_simp
        refine hK.out _ _ ⟨cellB hb1 x0, cellB hb1 x1, cellB hb1 x2, cellB hb1 x3, cellB hb1 x4, cellB hb1 y0, cellB hb1 y1, cellB hb1 y2, cellB hb1 y3, cellB hb1 y4⟩ (fun hHeld => ?_)
        clear hK
        clear hb1' hb1
        refine wpAnyH_take (i := 10) (v := ?v10ma) rfl (by kernel_rfl) (by kernel_rfl) (by kernel_rfl) (fun _ _ _ h => h) (Or.inl ⟨by rfl, fun w hSw => ?hy10ma⟩) hHeld ?rest10ma
        case hy10ma =>
          try dsimp only at hSw
          go_simp
          try with_reducible rfl
        simp only [Act.put, List.setIfInBounds_toArray, List.set_cons_zero, List.set_cons_succ, List.getElem_toArray, List.getElem_cons_zero, List.getElem_cons_succ]
        refine wpAnyH_done (by kernel_rfl) ?_ _
        go_wp2_with fail
        exact ⟨⟨H, rfl, rfl, by omega, by omega, HB1.out⟩, by simp [intOf]; omega⟩
      · have hJm : J = m := by omega
        have hlti : ¬ (m : Int) < (J : Int) := by omega
        go_wp2_with fail
        go_loopw [13] (fun k wr => k = .int .i64 (lo : Nat) ∧ Below w.heap.size w wr) (fun _ _ => 0)
        case atStart => exact ⟨rfl, HB.out⟩
        case round =>
          obtain ⟨rfl, hB⟩ := hrel
          have HB : Hid (Below w.heap.size w wr) := hB
          clear hB
          have hno : ¬ (lo : Int) < (m : Int) - 1 := by omega
          go_wp2_with fail
          refine bodyPost_ret (v := .tuple #[]) ?_ rfl ⟨rfl, HB.out⟩
          simp [results, Try.results32]
  · have hmi : (((m : Nat) : Int) - (lo : Nat) == 1) = false := by simp; omega
    by_cases hm2 : hi - m = 1
    · have hm : m + 1 = hi := by omega
      have hmj : ((hi : Nat) : Int) - (m : Nat) = 1 := by omega
      go_enter Try.func32, Try.ntmps32
      go_wp2_with fail
      go_loopw [14, 15] (fun i j wr => ∃ I : Nat, i = .int .i64 (I : Nat) ∧ j = .int .i64 (m : Nat) ∧ lo ≤ I ∧ I ≤ m ∧ Below w.heap.size w wr) (fun i _ _ => m - (intOf i).toNat)
      case atStart => exact ⟨lo, rfl, rfl, by omega, by omega, Below.refl _ _⟩
      case round =>
        obtain ⟨I, rfl, rfl, hI, hI2, hB⟩ := hrel
        have HB : Hid (Below w.heap.size w wr) := hB
        have hwr : w.heap.size ≤ wr.heap.size := hB.size
        clear hB
        by_cases hlt : I < m
        · have hlti : (I : Int) < (m : Int) := by omega
          obtain ⟨H, hH⟩ : ∃ H, (I + m) / 2 = H := ⟨_, rfl⟩
          have hHb : I ≤ H ∧ H < m := by omega
          have hHl : H < len := by omega
          have hll : m < len := by omega
          have hx : L[m]? = some (L[m]'(by have := HL.out; omega)) := List.getElem?_eq_getElem _
          have hy : L[H]? = some (L[H]'(by have := HL.out; omega)) := List.getElem?_eq_getElem _
          generalize (L[m]'(by have := HL.out; omega)) = x at hx
          generalize (L[H]'(by have := HL.out; omega)) = y at hy
          have hxy : y.off ≤ x.off := HUP.out.le hy hx (by omega)
          obtain ⟨b, off, rfl, ⟨x0, x1, x2, x3, x4⟩, y0, y1, y2, y3, y4⟩ := (HIN.out.bel HB.out).two hx hy
          have HC : Hid (∀ W, Calls Try.prog 20 #[.agg #[.int .i64 x.rec'.off, .string x.rec'.key, .string x.rec'.val, .bool x.rec'.gone, .int .i64 x.step], .agg #[.int .i64 y.rec'.off, .string y.rec'.key, .string y.rec'.val, .bool y.rec'.gone, .int .i64 y.step]] W fun e w' => ∃ c : Int, e = .returned (.int .i64 c) ∧ 0 ≤ c ∧ Below W.heap.size W w') := fun W => (dcmp_ok x y W).mono fun e w' h => ⟨_, h.1, cmpV_ge hxy, h.2⟩
          clear hx hy hxy
          go_upto_region 17 with fail
          have hHi : ((I : Nat) + (m : Nat) : Int) / 2 = (H : Int) := by omega
          rw [hHi]
          clear hHi
          refine wp_region_held_drew (S := fun w' => w'.cell? ⟨b, off + m * 5, none⟩ = some (.int .i64 x.rec'.off) ∧ w'.cell? ⟨b, off + m * 5 + 1, none⟩ = some (.string x.rec'.key) ∧ w'.cell? ⟨b, off + m * 5 + 2, none⟩ = some (.string x.rec'.val) ∧ w'.cell? ⟨b, off + m * 5 + 3, none⟩ = some (.bool x.rec'.gone) ∧ w'.cell? ⟨b, off + m * 5 + 4, none⟩ = some (.int .i64 x.step) ∧ w'.cell? ⟨b, off + H * 5, none⟩ = some (.int .i64 y.rec'.off) ∧ w'.cell? ⟨b, off + H * 5 + 1, none⟩ = some (.string y.rec'.key) ∧ w'.cell? ⟨b, off + H * 5 + 2, none⟩ = some (.string y.rec'.val) ∧ w'.cell? ⟨b, off + H * 5 + 3, none⟩ = some (.bool y.rec'.gone) ∧ w'.cell? ⟨b, off + H * 5 + 4, none⟩ = some (.int .i64 y.step)) (by kernel_rfl) ⟨x0, x1, x2, x3, x4, y0, y1, y2, y3, y4⟩ (fun hHeld => ?_)
          refine wpAnyH_take (i := 0) (v := ?v0mb) rfl (by kernel_rfl) (by kernel_rfl) (by kernel_rfl) (fun _ _ _ h => h) (Or.inl ⟨by rfl, fun w hSw => ?hy0mb⟩) hHeld ?rest0mb
          case hy0mb =>
            try dsimp only at hSw
            go_simp
            try with_reducible rfl
          simp only [Act.put, List.setIfInBounds_toArray, List.set_cons_zero, List.set_cons_succ, List.getElem_toArray, List.getElem_cons_zero]
          refine wpAnyH_take (i := 1) (v := ?v1mb) rfl (by kernel_rfl) (by kernel_rfl) (by kernel_rfl) (fun _ _ _ h => h) (Or.inl ⟨by rfl, fun w hSw => ?hy1mb⟩) hHeld ?rest1mb
          case hy1mb =>
            try dsimp only at hSw
            go_simp
            try with_reducible rfl
          simp only [Act.put, List.setIfInBounds_toArray, List.set_cons_zero, List.set_cons_succ, List.getElem_toArray, List.getElem_cons_zero, List.getElem_cons_succ]
          refine wpAnyH_take (i := 2) (v := ?v2mb) rfl (by kernel_rfl) (by kernel_rfl) (by kernel_rfl) (fun _ _ _ h => h) (Or.inl ⟨by rfl, fun w hSw => ?hy2mb⟩) hHeld ?rest2mb
          case hy2mb =>
            try dsimp only at hSw
            go_simp
            try with_reducible rfl
          simp only [Act.put, List.setIfInBounds_toArray, List.set_cons_zero, List.set_cons_succ, List.getElem_toArray, List.getElem_cons_zero, List.getElem_cons_succ]
          refine wpAnyH_take (i := 3) (v := ?v3mb) rfl (by kernel_rfl) (by kernel_rfl) (by kernel_rfl) (fun _ _ _ h => h) (Or.inl ⟨by rfl, fun w hSw => ?hy3mb⟩) hHeld ?rest3mb
          case hy3mb =>
            try dsimp only at hSw
            go_simp
            try with_reducible rfl
          simp only [Act.put, List.setIfInBounds_toArray, List.set_cons_zero, List.set_cons_succ, List.getElem_toArray, List.getElem_cons_zero, List.getElem_cons_succ]
          refine wpAnyH_take (i := 4) (v := ?v4mb) rfl (by kernel_rfl) (by kernel_rfl) (by kernel_rfl) (fun _ _ _ h => h) (Or.inl ⟨by rfl, fun w hSw => ?hy4mb⟩) hHeld ?rest4mb
          case hy4mb =>
            try dsimp only at hSw
            go_simp
            try with_reducible rfl
          simp only [Act.put, List.setIfInBounds_toArray, List.set_cons_zero, List.set_cons_succ, List.getElem_toArray, List.getElem_cons_zero, List.getElem_cons_succ]
          refine wpAnyH_take (i := 5) (v := ?v5mb) rfl (by kernel_rfl) (by kernel_rfl) (by kernel_rfl) (fun _ _ _ h => h) (Or.inl ⟨by rfl, fun w hSw => ?hy5mb⟩) hHeld ?rest5mb
          case hy5mb =>
            try dsimp only at hSw
            go_simp
            try with_reducible rfl
          simp only [Act.put, List.setIfInBounds_toArray, List.set_cons_zero, List.set_cons_succ, List.getElem_toArray, List.getElem_cons_zero, List.getElem_cons_succ]
          refine wpAnyH_take (i := 6) (v := ?v6mb) rfl (by kernel_rfl) (by kernel_rfl) (by kernel_rfl) (fun _ _ _ h => h) (Or.inl ⟨by rfl, fun w hSw => ?hy6mb⟩) hHeld ?rest6mb
          case hy6mb =>
            try dsimp only at hSw
            go_simp
            try with_reducible rfl
          simp only [Act.put, List.setIfInBounds_toArray, List.set_cons_zero, List.set_cons_succ, List.getElem_toArray, List.getElem_cons_zero, List.getElem_cons_succ]
          refine wpAnyH_take (i := 7) (v := ?v7mb) rfl (by kernel_rfl) (by kernel_rfl) (by kernel_rfl) (fun _ _ _ h => h) (Or.inl ⟨by rfl, fun w hSw => ?hy7mb⟩) hHeld ?rest7mb
          case hy7mb =>
            try dsimp only at hSw
            go_simp
            try with_reducible rfl
          simp only [Act.put, List.setIfInBounds_toArray, List.set_cons_zero, List.set_cons_succ, List.getElem_toArray, List.getElem_cons_zero, List.getElem_cons_succ]
          refine wpAnyH_take (i := 8) (v := ?v8mb) rfl (by kernel_rfl) (by kernel_rfl) (by kernel_rfl) (fun _ _ _ h => h) (Or.inl ⟨by rfl, fun w hSw => ?hy8mb⟩) hHeld ?rest8mb
          case hy8mb =>
            try dsimp only at hSw
            go_simp
            try with_reducible rfl
          simp only [Act.put, List.setIfInBounds_toArray, List.set_cons_zero, List.set_cons_succ, List.getElem_toArray, List.getElem_cons_zero, List.getElem_cons_succ]
          refine wpAnyH_ready (rs := [9]) (by kernel_rfl) (by simp) ?_
          refine AllReadyH.cons rfl (fun K hK => ?_) AllReadyH.nil
          go_simp
          refine (HC.out _).mono ?_
          rintro e w1 ⟨cc, rfl, hcc, hb1'⟩
          have hb1 : Below wr.heap.size wr w1 := ⟨hb1'.os, hb1'.tape, hb1'.output, hb1'.size, hb1'.block⟩
          have HB1 : Hid (Below w.heap.size w w1) := HB.out.trans (hb1.mono hwr)
          have hcn : decide (cc < 0) = false := decide_eq_false (by omega)
          clear hcc
          clear hHeld
          go_simp
          refine hK.out _ _ ⟨cellB hb1 x0, cellB hb1 x1, cellB hb1 x2, cellB hb1 x3, cellB hb1 x4, cellB hb1 y0, cellB hb1 y1, cellB hb1 y2, cellB hb1 y3, cellB hb1 y4⟩ (fun hHeld => ?_)
          clear hK
          clear hb1' hb1
          refine wpAnyH_take (i := 10) (v := ?v10mb) rfl (by kernel_rfl) (by kernel_rfl) (by kernel_rfl) (fun _ _ _ h => h) (Or.inl ⟨by rfl, fun w hSw => ?hy10mb⟩) hHeld ?rest10mb
          case hy10mb =>
            try dsimp only at hSw
            go_simp
            try with_reducible rfl
          simp only [Act.put, List.setIfInBounds_toArray, List.set_cons_zero, List.set_cons_succ, List.getElem_toArray, List.getElem_cons_zero, List.getElem_cons_succ]
          refine wpAnyH_take (i := 11) (v := ?v11mb) rfl (by kernel_rfl) (by kernel_rfl) (by kernel_rfl) (fun _ _ _ h => h) (Or.inl ⟨by rfl, fun w hSw => ?hy11mb⟩) hHeld ?rest11mb
          case hy11mb =>
            try dsimp only at hSw
            go_simp
            try with_reducible rfl
          simp only [Act.put, List.setIfInBounds_toArray, List.set_cons_zero, List.set_cons_succ, List.getElem_toArray, List.getElem_cons_zero, List.getElem_cons_succ]
          refine wpAnyH_done (by kernel_rfl) ?_ _
          go_wp2_with fail
          exact ⟨⟨H + 1, by go_num, rfl, by omega, by omega, HB1.out⟩, by simp [intOf]; omega⟩
        · have hIm : I = m := by omega
          have hlti : ¬ (I : Int) < (m : Int) := by omega
          go_wp2_with fail
          go_loopw [17] (fun k wr => k = .int .i64 (m : Nat) ∧ Below w.heap.size w wr) (fun _ _ => 0)
          case atStart => exact ⟨rfl, HB.out⟩
          case round =>
            obtain ⟨rfl, hB⟩ := hrel
            have HB : Hid (Below w.heap.size w wr) := hB
            clear hB
            have hno : ¬ (m : Int) > (I : Int) := by omega
            go_wp2_with fail
            refine bodyPost_ret (v := .tuple #[]) ?_ rfl ⟨rfl, HB.out⟩
            simp [results, Try.results32]
    · have hmj : (((hi : Nat) : Int) - (m : Nat) == 1) = false := by simp; omega
      obtain ⟨mid, hmid⟩ : ∃ mid, (lo + hi) / 2 = mid := ⟨_, rfl⟩
      have hmidi : ((lo : Nat) + (hi : Nat) : Int) / 2 = (mid : Int) := by omega
      have hmb : lo + 2 ≤ mid ∧ mid + 2 ≤ hi := by omega
      have hmd : lo + hi ≤ 2 * mid + 1 ∧ 2 * mid ≤ lo + hi := by omega
      obtain ⟨N, hN⟩ : ∃ N, mid + m = N := ⟨_, rfl⟩
      have hNi : ((mid : Nat) : Int) + (m : Nat) = (N : Int) := by omega
      obtain ⟨p, hp⟩ : ∃ p, p + 1 = N := ⟨N - 1, by omega⟩
      have hpi : ((N : Nat) : Int) - 1 = (p : Int) := by omega
      clear hmid
      go_enter Try.func32, Try.ntmps32
      go_upto_region 25 with fail
      try rw [hmidi]
      clear hmidi
      by_cases hbig : mid < m
      · obtain ⟨s0, hs0⟩ : ∃ s0, s0 + hi = N := ⟨N - hi, by omega⟩
        have hs0i : ((N : Nat) : Int) - (hi : Nat) = (s0 : Int) := by omega
        have hbigi : (m : Int) > (mid : Int) := by omega
        go_upto_region 33 with fail
        try rw [hs0i]
        try rw [hpi]
        clear hs0i hpi hNi
        go_wp2_with fail
        go_loopw [20, 21] (fun s r wr => ∃ I : Nat, s = .int .i64 (I : Nat) ∧ r = .int .i64 (mid : Nat) ∧ s0 ≤ I ∧ I ≤ mid ∧ Below w.heap.size w wr) (fun s _ _ => mid - (intOf s).toNat)
        case atStart => exact ⟨s0, rfl, rfl, by omega, by omega, Below.refl _ _⟩
        case round =>
          obtain ⟨I, rfl, rfl, hI, hI2, hB⟩ := hrel
          have HB : Hid (Below w.heap.size w wr) := hB
          have hwr : w.heap.size ≤ wr.heap.size := hB.size
          clear hB
          by_cases hlt : I < mid
          · have hlti : (I : Int) < (mid : Int) := by omega
            obtain ⟨H, hH⟩ : ∃ H, (I + mid) / 2 = H := ⟨_, rfl⟩
            have hHb : I ≤ H ∧ H < mid := by omega
            obtain ⟨D, hD⟩ : ∃ D, D + H = p := ⟨p - H, by omega⟩
            have hDb : m ≤ D ∧ D < hi := by omega
            have hHl : H < len := by omega
            have hll : D < len := by omega
            have hx : L[D]? = some (L[D]'(by have := HL.out; omega)) := List.getElem?_eq_getElem _
            have hy : L[H]? = some (L[H]'(by have := HL.out; omega)) := List.getElem?_eq_getElem _
            generalize (L[D]'(by have := HL.out; omega)) = x at hx
            generalize (L[H]'(by have := HL.out; omega)) = y at hy
            have hxy : y.off ≤ x.off := HUP.out.le hy hx (by omega)
            obtain ⟨b, off, rfl, ⟨x0, x1, x2, x3, x4⟩, y0, y1, y2, y3, y4⟩ := (HIN.out.bel HB.out).two hx hy
            have HC : Hid (∀ W, Calls Try.prog 20 #[.agg #[.int .i64 x.rec'.off, .string x.rec'.key, .string x.rec'.val, .bool x.rec'.gone, .int .i64 x.step], .agg #[.int .i64 y.rec'.off, .string y.rec'.key, .string y.rec'.val, .bool y.rec'.gone, .int .i64 y.step]] W fun e w' => ∃ c : Int, e = .returned (.int .i64 c) ∧ 0 ≤ c ∧ Below W.heap.size W w') := fun W => (dcmp_ok x y W).mono fun e w' h => ⟨_, h.1, cmpV_ge hxy, h.2⟩
            clear hx hy hxy
            go_upto_region 35 with fail
            have hHi : ((I : Nat) + (mid : Nat) : Int) / 2 = (H : Int) := by omega
            rw [hHi]
            clear hHi
            have hwD : IntKind.i64.wrap ((p : Nat) - (H : Nat) : Int) = (D : Int) := by rw [IntKind.wrap_i64]; omega
            refine wp_region_held_drew (S := fun w' => w'.cell? ⟨b, off + D * 5, none⟩ = some (.int .i64 x.rec'.off) ∧ w'.cell? ⟨b, off + D * 5 + 1, none⟩ = some (.string x.rec'.key) ∧ w'.cell? ⟨b, off + D * 5 + 2, none⟩ = some (.string x.rec'.val) ∧ w'.cell? ⟨b, off + D * 5 + 3, none⟩ = some (.bool x.rec'.gone) ∧ w'.cell? ⟨b, off + D * 5 + 4, none⟩ = some (.int .i64 x.step) ∧ w'.cell? ⟨b, off + H * 5, none⟩ = some (.int .i64 y.rec'.off) ∧ w'.cell? ⟨b, off + H * 5 + 1, none⟩ = some (.string y.rec'.key) ∧ w'.cell? ⟨b, off + H * 5 + 2, none⟩ = some (.string y.rec'.val) ∧ w'.cell? ⟨b, off + H * 5 + 3, none⟩ = some (.bool y.rec'.gone) ∧ w'.cell? ⟨b, off + H * 5 + 4, none⟩ = some (.int .i64 y.step)) (by kernel_rfl) ⟨x0, x1, x2, x3, x4, y0, y1, y2, y3, y4⟩ (fun hHeld => ?_)
            refine wpAnyH_take (i := 0) (v := ?v0mc) rfl (by kernel_rfl) (by kernel_rfl) (by kernel_rfl) (fun _ _ _ h => h) (Or.inl ⟨by rfl, fun w hSw => ?hy0mc⟩) hHeld ?rest0mc
            case hy0mc =>
              try dsimp only at hSw
              go_simp
              try with_reducible rfl
            simp only [Act.put, List.setIfInBounds_toArray, List.set_cons_zero, List.set_cons_succ, List.getElem_toArray, List.getElem_cons_zero]
            refine wpAnyH_take (i := 1) (v := ?v1mc) rfl (by kernel_rfl) (by kernel_rfl) (by kernel_rfl) (fun _ _ _ h => h) (Or.inl ⟨by rfl, fun w hSw => ?hy1mc⟩) hHeld ?rest1mc
            case hy1mc =>
              try dsimp only at hSw
              go_simp
              try with_reducible rfl
            simp only [Act.put, List.setIfInBounds_toArray, List.set_cons_zero, List.set_cons_succ, List.getElem_toArray, List.getElem_cons_zero, List.getElem_cons_succ]
            refine wpAnyH_take (i := 2) (v := ?v2mc) rfl (by kernel_rfl) (by kernel_rfl) (by kernel_rfl) (fun _ _ _ h => h) (Or.inl ⟨by rfl, fun w hSw => ?hy2mc⟩) hHeld ?rest2mc
            case hy2mc =>
              try dsimp only at hSw
              go_simp
              try with_reducible rfl
            simp only [Act.put, List.setIfInBounds_toArray, List.set_cons_zero, List.set_cons_succ, List.getElem_toArray, List.getElem_cons_zero, List.getElem_cons_succ]
            refine wpAnyH_take (i := 3) (v := ?v3mc) rfl (by kernel_rfl) (by kernel_rfl) (by kernel_rfl) (fun _ _ _ h => h) (Or.inl ⟨by rfl, fun w hSw => ?hy3mc⟩) hHeld ?rest3mc
            case hy3mc =>
              try dsimp only at hSw
              go_simp
              try with_reducible rfl
            simp only [Act.put, List.setIfInBounds_toArray, List.set_cons_zero, List.set_cons_succ, List.getElem_toArray, List.getElem_cons_zero, List.getElem_cons_succ]
            refine wpAnyH_take (i := 4) (v := ?v4mc) rfl (by kernel_rfl) (by kernel_rfl) (by kernel_rfl) (fun _ _ _ h => h) (Or.inl ⟨by rfl, fun w hSw => ?hy4mc⟩) hHeld ?rest4mc
            case hy4mc =>
              try dsimp only at hSw
              go_simp
              try with_reducible rfl
            simp only [Act.put, List.setIfInBounds_toArray, List.set_cons_zero, List.set_cons_succ, List.getElem_toArray, List.getElem_cons_zero, List.getElem_cons_succ]
            refine wpAnyH_take (i := 5) (v := ?v5mc) rfl (by kernel_rfl) (by kernel_rfl) (by kernel_rfl) (fun _ _ _ h => h) (Or.inl ⟨by rfl, fun w hSw => ?hy5mc⟩) hHeld ?rest5mc
            case hy5mc =>
              try dsimp only at hSw
              go_simp
              try with_reducible rfl
            simp only [Act.put, List.setIfInBounds_toArray, List.set_cons_zero, List.set_cons_succ, List.getElem_toArray, List.getElem_cons_zero, List.getElem_cons_succ]
            refine wpAnyH_take (i := 6) (v := ?v6mc) rfl (by kernel_rfl) (by kernel_rfl) (by kernel_rfl) (fun _ _ _ h => h) (Or.inl ⟨by rfl, fun w hSw => ?hy6mc⟩) hHeld ?rest6mc
            case hy6mc =>
              try dsimp only at hSw
              go_simp
              try with_reducible rfl
            simp only [Act.put, List.setIfInBounds_toArray, List.set_cons_zero, List.set_cons_succ, List.getElem_toArray, List.getElem_cons_zero, List.getElem_cons_succ]
            refine wpAnyH_take (i := 7) (v := ?v7mc) rfl (by kernel_rfl) (by kernel_rfl) (by kernel_rfl) (fun _ _ _ h => h) (Or.inl ⟨by rfl, fun w hSw => ?hy7mc⟩) hHeld ?rest7mc
            case hy7mc =>
              try dsimp only at hSw
              go_simp
              try with_reducible rfl
            simp only [Act.put, List.setIfInBounds_toArray, List.set_cons_zero, List.set_cons_succ, List.getElem_toArray, List.getElem_cons_zero, List.getElem_cons_succ]
            refine wpAnyH_take (i := 8) (v := ?v8mc) rfl (by kernel_rfl) (by kernel_rfl) (by kernel_rfl) (fun _ _ _ h => h) (Or.inl ⟨by rfl, fun w hSw => ?hy8mc⟩) hHeld ?rest8mc
            case hy8mc =>
              try dsimp only at hSw
              go_simp
              try with_reducible rfl
            simp only [Act.put, List.setIfInBounds_toArray, List.set_cons_zero, List.set_cons_succ, List.getElem_toArray, List.getElem_cons_zero, List.getElem_cons_succ]
            refine wpAnyH_take (i := 9) (v := ?v9mc) rfl (by kernel_rfl) (by kernel_rfl) (by kernel_rfl) (fun _ _ _ h => h) (Or.inl ⟨by rfl, fun w hSw => ?hy9mc⟩) hHeld ?rest9mc
            case hy9mc =>
              try dsimp only at hSw
              go_simp
              try with_reducible rfl
            simp only [Act.put, List.setIfInBounds_toArray, List.set_cons_zero, List.set_cons_succ, List.getElem_toArray, List.getElem_cons_zero, List.getElem_cons_succ]
            refine wpAnyH_take (i := 10) (v := ?v10mc) rfl (by kernel_rfl) (by kernel_rfl) (by kernel_rfl) (fun _ _ _ h => h) (Or.inl ⟨by rfl, fun w hSw => ?hy10mc⟩) hHeld ?rest10mc
            case hy10mc =>
              try dsimp only at hSw
              go_simp
              try with_reducible rfl
            simp only [Act.put, List.setIfInBounds_toArray, List.set_cons_zero, List.set_cons_succ, List.getElem_toArray, List.getElem_cons_zero, List.getElem_cons_succ]
            refine wpAnyH_ready (rs := [11]) (by kernel_rfl) (by simp) ?_
            refine AllReadyH.cons rfl (fun K hK => ?_) AllReadyH.nil
            go_simp
            refine (HC.out _).mono ?_
            rintro e w1 ⟨cc, rfl, hcc, hb1'⟩
            have hb1 : Below wr.heap.size wr w1 := ⟨hb1'.os, hb1'.tape, hb1'.output, hb1'.size, hb1'.block⟩
            have HB1 : Hid (Below w.heap.size w w1) := HB.out.trans (hb1.mono hwr)
            have hcn : decide (cc < 0) = false := decide_eq_false (by omega)
            clear hcc
            clear hHeld
            go_simp
            refine hK.out _ _ ⟨cellB hb1 x0, cellB hb1 x1, cellB hb1 x2, cellB hb1 x3, cellB hb1 x4, cellB hb1 y0, cellB hb1 y1, cellB hb1 y2, cellB hb1 y3, cellB hb1 y4⟩ (fun hHeld => ?_)
            clear hK
            clear hb1' hb1
            refine wpAnyH_take (i := 12) (v := ?v12mc) rfl (by kernel_rfl) (by kernel_rfl) (by kernel_rfl) (fun _ _ _ h => h) (Or.inl ⟨by rfl, fun w hSw => ?hy12mc⟩) hHeld ?rest12mc
            case hy12mc =>
              try dsimp only at hSw
              go_simp
              try with_reducible rfl
            simp only [Act.put, List.setIfInBounds_toArray, List.set_cons_zero, List.set_cons_succ, List.getElem_toArray, List.getElem_cons_zero, List.getElem_cons_succ]
            refine wpAnyH_take (i := 13) (v := ?v13mc) rfl (by kernel_rfl) (by kernel_rfl) (by kernel_rfl) (fun _ _ _ h => h) (Or.inl ⟨by rfl, fun w hSw => ?hy13mc⟩) hHeld ?rest13mc
            case hy13mc =>
              try dsimp only at hSw
              go_simp
              try with_reducible rfl
            simp only [Act.put, List.setIfInBounds_toArray, List.set_cons_zero, List.set_cons_succ, List.getElem_toArray, List.getElem_cons_zero, List.getElem_cons_succ]
            refine wpAnyH_done (by kernel_rfl) ?_ _
            clear hwD
            go_wp2_with fail
            exact ⟨⟨H + 1, by go_num, rfl, by omega, by omega, HB1.out⟩, by simp [intOf]; omega⟩
          · have hIm : I = mid := by omega
            have hlti : ¬ (I : Int) < (mid : Int) := by omega
            have HQ : Hid (∀ W, Below w.heap.size w W → Calls Try.prog 32 #[.slice a len cap, .int .i64 (mid : Nat), .int .i64 (m : Nat), .int .i64 (hi : Nat), cmpF] W fun e w' => e = .returned (.tuple #[]) ∧ Below W.heap.size W w') := fun W hW => HIH.out mid m hi W hW (by omega) (by omega) (by omega) (by omega)
            have hNI : ((N : Nat) : Int) - (I : Nat) = (m : Int) := by omega
            subst hIm
            go_wp2_with fail
            refine (HQ.out _ HB.out).mono ?_
            rintro e w2 ⟨rfl, hb2⟩
            have HB2 : Hid (Below w.heap.size w w2) := HB.out.trans (hb2.mono hwr)
            clear hb2
            go_wp2_with fail
            go_end0
            exact ⟨rfl, HB2.out⟩
      · have hbigi : ¬ (m : Int) > (mid : Int) := by omega
        go_upto_region 33 with fail
        try rw [hpi]
        clear hpi hNi
        go_wp2_with fail
        go_loopw [20, 21] (fun s r wr => ∃ I : Nat, s = .int .i64 (I : Nat) ∧ r = .int .i64 (m : Nat) ∧ lo ≤ I ∧ I ≤ m ∧ Below w.heap.size w wr) (fun s _ _ => m - (intOf s).toNat)
        case atStart => exact ⟨lo, rfl, rfl, by omega, by omega, Below.refl _ _⟩
        case round =>
          obtain ⟨I, rfl, rfl, hI, hI2, hB⟩ := hrel
          have HB : Hid (Below w.heap.size w wr) := hB
          have hwr : w.heap.size ≤ wr.heap.size := hB.size
          clear hB
          by_cases hlt : I < m
          · have hlti : (I : Int) < (m : Int) := by omega
            obtain ⟨H, hH⟩ : ∃ H, (I + m) / 2 = H := ⟨_, rfl⟩
            have hHb : I ≤ H ∧ H < m := by omega
            obtain ⟨D, hD⟩ : ∃ D, D + H = p := ⟨p - H, by omega⟩
            have hDb : m ≤ D ∧ D < hi := by omega
            have hHl : H < len := by omega
            have hll : D < len := by omega
            have hx : L[D]? = some (L[D]'(by have := HL.out; omega)) := List.getElem?_eq_getElem _
            have hy : L[H]? = some (L[H]'(by have := HL.out; omega)) := List.getElem?_eq_getElem _
            generalize (L[D]'(by have := HL.out; omega)) = x at hx
            generalize (L[H]'(by have := HL.out; omega)) = y at hy
            have hxy : y.off ≤ x.off := HUP.out.le hy hx (by omega)
            obtain ⟨b, off, rfl, ⟨x0, x1, x2, x3, x4⟩, y0, y1, y2, y3, y4⟩ := (HIN.out.bel HB.out).two hx hy
            have HC : Hid (∀ W, Calls Try.prog 20 #[.agg #[.int .i64 x.rec'.off, .string x.rec'.key, .string x.rec'.val, .bool x.rec'.gone, .int .i64 x.step], .agg #[.int .i64 y.rec'.off, .string y.rec'.key, .string y.rec'.val, .bool y.rec'.gone, .int .i64 y.step]] W fun e w' => ∃ c : Int, e = .returned (.int .i64 c) ∧ 0 ≤ c ∧ Below W.heap.size W w') := fun W => (dcmp_ok x y W).mono fun e w' h => ⟨_, h.1, cmpV_ge hxy, h.2⟩
            clear hx hy hxy
            go_upto_region 35 with fail
            have hHi : ((I : Nat) + (m : Nat) : Int) / 2 = (H : Int) := by omega
            rw [hHi]
            clear hHi
            have hwD : IntKind.i64.wrap ((p : Nat) - (H : Nat) : Int) = (D : Int) := by rw [IntKind.wrap_i64]; omega
            refine wp_region_held_drew (S := fun w' => w'.cell? ⟨b, off + D * 5, none⟩ = some (.int .i64 x.rec'.off) ∧ w'.cell? ⟨b, off + D * 5 + 1, none⟩ = some (.string x.rec'.key) ∧ w'.cell? ⟨b, off + D * 5 + 2, none⟩ = some (.string x.rec'.val) ∧ w'.cell? ⟨b, off + D * 5 + 3, none⟩ = some (.bool x.rec'.gone) ∧ w'.cell? ⟨b, off + D * 5 + 4, none⟩ = some (.int .i64 x.step) ∧ w'.cell? ⟨b, off + H * 5, none⟩ = some (.int .i64 y.rec'.off) ∧ w'.cell? ⟨b, off + H * 5 + 1, none⟩ = some (.string y.rec'.key) ∧ w'.cell? ⟨b, off + H * 5 + 2, none⟩ = some (.string y.rec'.val) ∧ w'.cell? ⟨b, off + H * 5 + 3, none⟩ = some (.bool y.rec'.gone) ∧ w'.cell? ⟨b, off + H * 5 + 4, none⟩ = some (.int .i64 y.step)) (by kernel_rfl) ⟨x0, x1, x2, x3, x4, y0, y1, y2, y3, y4⟩ (fun hHeld => ?_)
            refine wpAnyH_take (i := 0) (v := ?v0md) rfl (by kernel_rfl) (by kernel_rfl) (by kernel_rfl) (fun _ _ _ h => h) (Or.inl ⟨by rfl, fun w hSw => ?hy0md⟩) hHeld ?rest0md
            case hy0md =>
              try dsimp only at hSw
              go_simp
              try with_reducible rfl
            simp only [Act.put, List.setIfInBounds_toArray, List.set_cons_zero, List.set_cons_succ, List.getElem_toArray, List.getElem_cons_zero]
            refine wpAnyH_take (i := 1) (v := ?v1md) rfl (by kernel_rfl) (by kernel_rfl) (by kernel_rfl) (fun _ _ _ h => h) (Or.inl ⟨by rfl, fun w hSw => ?hy1md⟩) hHeld ?rest1md
            case hy1md =>
              try dsimp only at hSw
              go_simp
              try with_reducible rfl
            simp only [Act.put, List.setIfInBounds_toArray, List.set_cons_zero, List.set_cons_succ, List.getElem_toArray, List.getElem_cons_zero, List.getElem_cons_succ]
            refine wpAnyH_take (i := 2) (v := ?v2md) rfl (by kernel_rfl) (by kernel_rfl) (by kernel_rfl) (fun _ _ _ h => h) (Or.inl ⟨by rfl, fun w hSw => ?hy2md⟩) hHeld ?rest2md
            case hy2md =>
              try dsimp only at hSw
              go_simp
              try with_reducible rfl
            simp only [Act.put, List.setIfInBounds_toArray, List.set_cons_zero, List.set_cons_succ, List.getElem_toArray, List.getElem_cons_zero, List.getElem_cons_succ]
            refine wpAnyH_take (i := 3) (v := ?v3md) rfl (by kernel_rfl) (by kernel_rfl) (by kernel_rfl) (fun _ _ _ h => h) (Or.inl ⟨by rfl, fun w hSw => ?hy3md⟩) hHeld ?rest3md
            case hy3md =>
              try dsimp only at hSw
              go_simp
              try with_reducible rfl
            simp only [Act.put, List.setIfInBounds_toArray, List.set_cons_zero, List.set_cons_succ, List.getElem_toArray, List.getElem_cons_zero, List.getElem_cons_succ]
            refine wpAnyH_take (i := 4) (v := ?v4md) rfl (by kernel_rfl) (by kernel_rfl) (by kernel_rfl) (fun _ _ _ h => h) (Or.inl ⟨by rfl, fun w hSw => ?hy4md⟩) hHeld ?rest4md
            case hy4md =>
              try dsimp only at hSw
              go_simp
              try with_reducible rfl
            simp only [Act.put, List.setIfInBounds_toArray, List.set_cons_zero, List.set_cons_succ, List.getElem_toArray, List.getElem_cons_zero, List.getElem_cons_succ]
            refine wpAnyH_take (i := 5) (v := ?v5md) rfl (by kernel_rfl) (by kernel_rfl) (by kernel_rfl) (fun _ _ _ h => h) (Or.inl ⟨by rfl, fun w hSw => ?hy5md⟩) hHeld ?rest5md
            case hy5md =>
              try dsimp only at hSw
              go_simp
              try with_reducible rfl
            simp only [Act.put, List.setIfInBounds_toArray, List.set_cons_zero, List.set_cons_succ, List.getElem_toArray, List.getElem_cons_zero, List.getElem_cons_succ]
            refine wpAnyH_take (i := 6) (v := ?v6md) rfl (by kernel_rfl) (by kernel_rfl) (by kernel_rfl) (fun _ _ _ h => h) (Or.inl ⟨by rfl, fun w hSw => ?hy6md⟩) hHeld ?rest6md
            case hy6md =>
              try dsimp only at hSw
              go_simp
              try with_reducible rfl
            simp only [Act.put, List.setIfInBounds_toArray, List.set_cons_zero, List.set_cons_succ, List.getElem_toArray, List.getElem_cons_zero, List.getElem_cons_succ]
            refine wpAnyH_take (i := 7) (v := ?v7md) rfl (by kernel_rfl) (by kernel_rfl) (by kernel_rfl) (fun _ _ _ h => h) (Or.inl ⟨by rfl, fun w hSw => ?hy7md⟩) hHeld ?rest7md
            case hy7md =>
              try dsimp only at hSw
              go_simp
              try with_reducible rfl
            simp only [Act.put, List.setIfInBounds_toArray, List.set_cons_zero, List.set_cons_succ, List.getElem_toArray, List.getElem_cons_zero, List.getElem_cons_succ]
            refine wpAnyH_take (i := 8) (v := ?v8md) rfl (by kernel_rfl) (by kernel_rfl) (by kernel_rfl) (fun _ _ _ h => h) (Or.inl ⟨by rfl, fun w hSw => ?hy8md⟩) hHeld ?rest8md
            case hy8md =>
              try dsimp only at hSw
              go_simp
              try with_reducible rfl
            simp only [Act.put, List.setIfInBounds_toArray, List.set_cons_zero, List.set_cons_succ, List.getElem_toArray, List.getElem_cons_zero, List.getElem_cons_succ]
            refine wpAnyH_take (i := 9) (v := ?v9md) rfl (by kernel_rfl) (by kernel_rfl) (by kernel_rfl) (fun _ _ _ h => h) (Or.inl ⟨by rfl, fun w hSw => ?hy9md⟩) hHeld ?rest9md
            case hy9md =>
              try dsimp only at hSw
              go_simp
              try with_reducible rfl
            simp only [Act.put, List.setIfInBounds_toArray, List.set_cons_zero, List.set_cons_succ, List.getElem_toArray, List.getElem_cons_zero, List.getElem_cons_succ]
            refine wpAnyH_take (i := 10) (v := ?v10md) rfl (by kernel_rfl) (by kernel_rfl) (by kernel_rfl) (fun _ _ _ h => h) (Or.inl ⟨by rfl, fun w hSw => ?hy10md⟩) hHeld ?rest10md
            case hy10md =>
              try dsimp only at hSw
              go_simp
              try with_reducible rfl
            simp only [Act.put, List.setIfInBounds_toArray, List.set_cons_zero, List.set_cons_succ, List.getElem_toArray, List.getElem_cons_zero, List.getElem_cons_succ]
            refine wpAnyH_ready (rs := [11]) (by kernel_rfl) (by simp) ?_
            refine AllReadyH.cons rfl (fun K hK => ?_) AllReadyH.nil
            go_simp
            refine (HC.out _).mono ?_
            rintro e w1 ⟨cc, rfl, hcc, hb1'⟩
            have hb1 : Below wr.heap.size wr w1 := ⟨hb1'.os, hb1'.tape, hb1'.output, hb1'.size, hb1'.block⟩
            have HB1 : Hid (Below w.heap.size w w1) := HB.out.trans (hb1.mono hwr)
            have hcn : decide (cc < 0) = false := decide_eq_false (by omega)
            clear hcc
            clear hHeld
            go_simp
            refine hK.out _ _ ⟨cellB hb1 x0, cellB hb1 x1, cellB hb1 x2, cellB hb1 x3, cellB hb1 x4, cellB hb1 y0, cellB hb1 y1, cellB hb1 y2, cellB hb1 y3, cellB hb1 y4⟩ (fun hHeld => ?_)
            clear hK
            clear hb1' hb1
            refine wpAnyH_take (i := 12) (v := ?v12md) rfl (by kernel_rfl) (by kernel_rfl) (by kernel_rfl) (fun _ _ _ h => h) (Or.inl ⟨by rfl, fun w hSw => ?hy12md⟩) hHeld ?rest12md
            case hy12md =>
              try dsimp only at hSw
              go_simp
              try with_reducible rfl
            simp only [Act.put, List.setIfInBounds_toArray, List.set_cons_zero, List.set_cons_succ, List.getElem_toArray, List.getElem_cons_zero, List.getElem_cons_succ]
            refine wpAnyH_take (i := 13) (v := ?v13md) rfl (by kernel_rfl) (by kernel_rfl) (by kernel_rfl) (fun _ _ _ h => h) (Or.inl ⟨by rfl, fun w hSw => ?hy13md⟩) hHeld ?rest13md
            case hy13md =>
              try dsimp only at hSw
              go_simp
              try with_reducible rfl
            simp only [Act.put, List.setIfInBounds_toArray, List.set_cons_zero, List.set_cons_succ, List.getElem_toArray, List.getElem_cons_zero, List.getElem_cons_succ]
            refine wpAnyH_done (by kernel_rfl) ?_ _
            clear hwD
            go_wp2_with fail
            exact ⟨⟨H + 1, by go_num, rfl, by omega, by omega, HB1.out⟩, by simp [intOf]; omega⟩
          · have hIm : I = m := by omega
            have hlti : ¬ (I : Int) < (m : Int) := by omega
            have hNI : ((N : Nat) : Int) - (I : Nat) = (mid : Int) := by omega
            subst hIm
            by_cases hmm : I < mid
            · have hmmi : (I : Int) < (mid : Int) := by omega
              have HQ : Hid (∀ W, Below w.heap.size w W → Calls Try.prog 32 #[.slice a len cap, .int .i64 (lo : Nat), .int .i64 (I : Nat), .int .i64 (mid : Nat), cmpF] W fun e w' => e = .returned (.tuple #[]) ∧ Below W.heap.size W w') := fun W hW => HIH.out lo I mid W hW (by omega) (by omega) (by omega) (by omega)
              go_wp2_with fail
              refine (HQ.out _ HB.out).mono ?_
              rintro e w2 ⟨rfl, hb2⟩
              have HB2 : Hid (Below w.heap.size w w2) := HB.out.trans (hb2.mono hwr)
              clear hb2
              go_wp2_with fail
              go_end0
              exact ⟨rfl, HB2.out⟩
            · have hmmi : ¬ (I : Int) < (mid : Int) := by omega
              go_wp2_with fail
              go_end0
              exact ⟨rfl, HB.out⟩
theorem merge_ok (a : Option Addr) (cap : Nat) (L : List Due) (w0 : World) (hin0 : DIn w0 a L) (hup : DUp L) (hlen : L.length ≤ 2305843009213693951) : ∀ n, MergeOK a cap L w0 n
  | 0 => fun lo m hi w _ h1 h2 _ h4 => by omega
  | n + 1 => merge_step a cap L w0 hin0 hup hlen n (merge_ok a cap L w0 hin0 hup hlen n)
end Go.Proofs.Ytebfpffilepfaaa
