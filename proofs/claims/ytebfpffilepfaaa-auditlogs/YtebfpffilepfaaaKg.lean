/- Layer 18: place and next walked. -/
import Derived.Test.YtebfpffilepfaaaKe
namespace Go.Proofs.Ytebfpffilepfaaa
open Go.RowKit Go.Maps Go.Shelf
set_option linter.unusedVariables false
set_option maxRecDepth 20000

abbrev plcF : Value := .func (.func 30) #[] #[]
/-- How many of dues that rise are below an offset. -/
def below' (L : List Due) (x : Int) (p : Nat) : Prop := p ≤ L.length ∧ (∀ i d, L[i]? = some d → i < p → d.off < x) ∧ ∀ i d, L[i]? = some d → p ≤ i → x ≤ d.off
def SrchE (L : List Due) (x : Int) (w : World) (e : Ending) (w' : World) : Prop := ∃ (p : Nat) (t : Bool), e = .returned (.tuple #[.int .i64 (p : Nat), .bool t]) ∧ below' L x p ∧ Below w.heap.size w w'
set_option maxHeartbeats 4000000 in
theorem search_ok (a : Option Addr) (cap : Nat) (L : List Due) (x : Int) (w : World) (hin : DIn w a L) (hup : DUp L) (hlen : L.length ≤ 1000000000000000) :
    Calls Try.prog 29 #[.slice a L.length cap, .int .i64 x, plcF] w (SrchE L x w) := by
  have eg : ∀ args w, (callFunc 30 args).run Try.prog w = .ok (.enter 30 args) w := enters_of Try.func30 (by kernel_rfl) rfl
  have HIN : Hid (DIn w a L) := hin
  have HUP : Hid (DUp L) := hup
  obtain ⟨len, hl⟩ : ∃ len, L.length = len := ⟨_, rfl⟩
  have HL : Hid (L.length = len) := hl
  rw [hl] at hlen ⊢
  clear hin hup hl
  go_enter Try.func29, Try.ntmps29
  go_wp2_with fail
  go_loopw [9, 10] (fun i j wr => ∃ I J : Nat, i = .int .i64 (I : Nat) ∧ j = .int .i64 (J : Nat) ∧ I ≤ J ∧ J ≤ len ∧ (∀ k d, L[k]? = some d → k < I → d.off < x) ∧ (∀ k d, L[k]? = some d → J ≤ k → x ≤ d.off) ∧ Below w.heap.size w wr) (fun i j _ => (intOf j).toNat - (intOf i).toNat)
  case atStart => exact ⟨0, len, rfl, rfl, by omega, by omega, fun k d _ h => by omega, fun k d hd h => by have := (List.getElem?_eq_some_iff.1 hd).1; have := HL.out; omega, Below.refl _ _⟩
  case round =>
    obtain ⟨I, J, rfl, rfl, hIJ, hJl, hlo, hhi, hB⟩ := hrel
    have HB : Hid (Below w.heap.size w wr) := hB
    have HLO : Hid (∀ k d, L[k]? = some d → k < I → d.off < x) := hlo
    have HHI : Hid (∀ k d, L[k]? = some d → J ≤ k → x ≤ d.off) := hhi
    have hwr : w.heap.size ≤ wr.heap.size := hB.size
    clear hB hlo hhi
    by_cases hlt : I < J
    · have hlti : (I : Int) < (J : Int) := by omega
      obtain ⟨H, hH⟩ : ∃ H, (I + J) / 2 = H := ⟨_, rfl⟩
      have hHb : I ≤ H ∧ H < J := by omega
      have hHl : H < len := by omega
      have hx : L[H]? = some (L[H]'(by have := HL.out; omega)) := List.getElem?_eq_getElem _
      generalize (L[H]'(by have := HL.out; omega)) = y at hx
      have HX : Hid (L[H]? = some y) := hx
      obtain ⟨b, off, rfl, _, y0, y1, y2, y3, y4⟩ := HIN.out.bel HB.out H y hx
      clear hx
      have HC : Hid (∀ W, Calls Try.prog 30 #[.agg #[.int .i64 y.rec'.off, .string y.rec'.key, .string y.rec'.val, .bool y.rec'.gone, .int .i64 y.step], .int .i64 x] W fun e w' => e = .returned (.int .i64 (cmpV y.off x)) ∧ Below W.heap.size W w') := fun W => pcmp_ok y x W
      go_upto_region 5 with fail
      have hHi : ((I : Nat) + (J : Nat) : Int) / 2 = (H : Int) := by omega
      rw [hHi]
      clear hHi
      go_wp2_with fail
      refine (HC.out _).mono ?_
      rintro e w1 ⟨rfl, hb1⟩
      have HB1 : Hid (Below w.heap.size w w1) := HB.out.trans (hb1.mono hwr)
      clear hb1 y0 y1 y2 y3 y4
      by_cases hc : y.off < x
      · have hcv : cmpV y.off x = -1 := cmpV_lt hc
        have HE : Hid (∀ k d, L[k]? = some d → k < H + 1 → d.off < x) := fun k d hd hk => by
          have h1 := HUP.out.le hd HX.out (by omega)
          omega
        rw [hcv]
        clear hc hcv
        go_wp2_with fail
        exact ⟨⟨H + 1, J, by go_num, rfl, by omega, by omega, HE.out, HHI.out, HB1.out⟩, by simp [intOf]; omega⟩
      · have hcv : 0 ≤ cmpV y.off x := cmpV_ge (by omega)
        have HE : Hid (∀ k d, L[k]? = some d → H ≤ k → x ≤ d.off) := fun k d hd hk => by
          have h1 := HUP.out.le HX.out hd hk
          omega
        obtain ⟨c, hcc⟩ : ∃ c, cmpV y.off x = c := ⟨_, rfl⟩
        rw [hcc] at hcv ⊢
        have hcn : ¬ c < 0 := by omega
        clear hc hcc
        go_wp2_with fail
        exact ⟨⟨I, H, rfl, rfl, by omega, by omega, HLO.out, HE.out, HB1.out⟩, by simp [intOf]; omega⟩
    · have hlti : ¬ (I : Int) < (J : Int) := by omega
      have HE : Hid (below' L x I) := ⟨by have := HL.out; omega, HLO.out, fun k d hd hk => HHI.out k d hd (by omega)⟩
      by_cases hl2 : I < len
      · have hx : L[I]? = some (L[I]'(by have := HL.out; omega)) := List.getElem?_eq_getElem _
        generalize (L[I]'(by have := HL.out; omega)) = y at hx
        obtain ⟨b, off, rfl, _, y0, y1, y2, y3, y4⟩ := HIN.out.bel HB.out I y hx
        clear hx
        have HC : Hid (∀ W, Calls Try.prog 30 #[.agg #[.int .i64 y.rec'.off, .string y.rec'.key, .string y.rec'.val, .bool y.rec'.gone, .int .i64 y.step], .int .i64 x] W fun e w' => e = .returned (.int .i64 (cmpV y.off x)) ∧ Below W.heap.size W w') := fun W => pcmp_ok y x W
        go_wp2_with fail
        refine (HC.out _).mono ?_
        rintro e w1 ⟨rfl, hb1⟩
        have HB1 : Hid (Below w.heap.size w w1) := HB.out.trans (hb1.mono hwr)
        clear hb1
        go_wp2_with fail
        go_ret2
        exact ⟨I, _, rfl, HE.out, HB1.out⟩
      · go_wp2_with fail
        go_ret2
        exact ⟨I, _, rfl, HE.out, HB.out⟩
theorem place_ok (D : Nat) (a : Option Addr) (cap : Nat) (L : List Due) (lv g : Nat) (T : Nat → Int) (x : Int) (w : World) (h : DS w D a cap L lv g T) (hup : DUp L) :
    Calls Try.prog 25 #[.pointer (some ⟨D, 0, none⟩), .int .i64 x] w fun e w' => ∃ p : Nat, e = .returned (.int .i64 (p : Nat)) ∧ below' L x p ∧ Below w.heap.size w w' := by
  have HS : Hid (∀ W, W = w → Calls Try.prog 29 #[.slice a L.length cap, .int .i64 x, plcF] W (SrchE L x W)) := fun W e => by subst e; exact search_ok a cap L x W h.list hup (by have := h.le; have := h.big; omega)
  obtain ⟨c0, c1, c2⟩ := cells3 h.blk
  obtain ⟨len, hl⟩ : ∃ len, L.length = len := ⟨_, rfl⟩
  rw [hl] at HS c0
  clear h hup
  go_enter Try.func25, Try.ntmps25
  go_wp2_with fail
  refine (HS.out _ rfl).mono ?_
  rintro e w1 ⟨p, t, rfl, hp, hb1⟩
  have HB1 : Hid (below' L x p ∧ Below w.heap.size w w1) := ⟨hp, hb1⟩
  clear hp hb1
  go_wp2_with fail
  go_ret
  exact ⟨p, rfl, HB1.out.1, HB1.out.2⟩
/-- The place of the first one from a place on, or none: where all steps are lower, where none is. -/
def NextIs (L : List Due) (p : Nat) (s : Int) (q : Nat) : Prop := ((∀ d ∈ L, d.step < s) → q = min p L.length) ∧ ((∀ d ∈ L, s ≤ d.step) → q = L.length)
set_option maxHeartbeats 8000000 in
theorem next_low (D : Nat) (a : Option Addr) (cap : Nat) (L : List Due) (lv g : Nat) (T : Nat → Int) (p : Nat) (s : Int) (w : World) (h : DS w D a cap L lv g T) (ht : Tree L lv T) (hs : ∀ d ∈ L, d.step < s) (hp : p ≤ 1000000000) :
    Calls Try.prog 24 #[.pointer (some ⟨D, 0, none⟩), .int .i64 (p : Nat), .int .i64 s] w fun e w' => e = .returned (.int .i64 ((min p L.length : Nat) : Int)) ∧ w' = w := by
  obtain ⟨c0, c1, c2⟩ := cells3 h.blk
  have h1 := h.one
  have h2 := h.le
  have h3 := h.big
  have HT : Hid (TB w g (2 * lv) T) := h.tb
  have HTR : Hid (Tree L lv T) := ht
  have HS : Hid (∀ d ∈ L, d.step < s) := hs
  obtain ⟨len, hl⟩ : ∃ len, L.length = len := ⟨_, rfl⟩
  have HL : Hid (L.length = len) := hl
  rw [hl] at h2 c0 ⊢
  clear h ht hs hl
  by_cases hlt : len ≤ p
  · have hm : min p len = len := by omega
    have hge : (p : Int) ≥ (len : Int) := by omega
    rw [hm]
    go_enter Try.func24, Try.ntmps24
    go_wp2_with fail
    go_ret
    exact ⟨rfl, rfl⟩
  · have hm : min p len = p := by omega
    have hge : ¬ (p : Int) ≥ (len : Int) := by omega
    rw [hm]
    have hx : L[p]? = some (L[p]'(by have := HL.out; omega)) := List.getElem?_eq_getElem _
    have hleaf := HTR.out.leaf p _ hx
    have hst := HS.out _ (List.mem_of_getElem? hx)
    obtain ⟨x, hxx⟩ : ∃ x, T (lv + p) = x := ⟨_, rfl⟩
    have hxs : x < s := by rw [← hxx, hleaf]; exact hst
    obtain ⟨A, hA⟩ : ∃ A, lv + p = A := ⟨_, rfl⟩
    have hAi : (lv : Int) + (p : Int) = (A : Int) := by omega
    have hAs : (A : Int) - (lv : Int) = (p : Int) := by omega
    obtain ⟨n2, hn2⟩ : ∃ n2, 2 * lv = n2 := ⟨_, rfl⟩
    rw [hn2] at HT c2
    have hAl : A < n2 := by omega
    have t0 := HT.out.cell hAl
    rw [← hA, hxx] at t0
    rw [hA] at t0
    have hxn : ¬ x ≥ s := by omega
    have hAv : ¬ (A : Int) < (lv : Int) := by omega
    clear hx hleaf hst hxx
    go_enter Try.func24, Try.ntmps24
    go_wp2_with fail
    go_loopw [7] (fun v wr => v = .int .i64 (A : Nat) ∧ wr = w) (fun _ _ => 0)
    case atStart => exact ⟨rfl, rfl⟩
    case round =>
      obtain ⟨rfl, rfl⟩ := hrel
      go_wp2_with fail
      go_loopw [7] (fun v w2 => v = .int .i64 (A : Nat) ∧ w2 = wr) (fun _ _ => 0)
      case atStart => exact ⟨rfl, rfl⟩
      case round =>
        obtain ⟨rfl, rfl⟩ := hrel
        go_wp2_with fail
        go_ret
        exact ⟨rfl, rfl⟩
end Go.Proofs.Ytebfpffilepfaaa
