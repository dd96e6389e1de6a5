/- Layer 12: the names of a log's files (nameOf). -/
/- Layer 12: a part of a log: openPart of a file that is not there. -/
import Derived.Test.YtcjlcieheepegaaGreatDoorV06
import Derived.Test.YtcjlcieheepegaaGreatDoorV21
import Derived.Test.YtcjlcieheepegaaGreatDoorV24
namespace Go.Proofs.YtcjlcieheepegaaGreatDoor
open Go.RowKit
set_option linter.unusedVariables false
set_option maxRecDepth 20000
set_option maxRecDepth 20000

/-- The table of powers of ten lies in its block. -/
def TabP (w : World) : Prop := Lib.TabIs Tryz.prog w "internal/strconv.uint64pow10" .u64 Lib.pow10Tab
theorem TabP.lt {w : World} (h : TabP w) : 3 < w.heap.size := by
  have hg : Tryz.prog.globalNamed "internal/strconv.uint64pow10" = some 3 := by kernel_rfl
  unfold TabP Lib.TabIs World.var? at h
  rw [hg] at h
  simp only [Option.bind_some] at h
  rcases Nat.lt_or_ge 3 w.heap.size with h' | h'
  · exact h'
  · rw [Array.getElem?_eq_none h'] at h; cases h
theorem TabP.low {w w' : World} {C : Nat} (h : TabP w) (hb : Below C w w') (hC : 3 < C) : TabP w' := by
  have hg : Tryz.prog.globalNamed "internal/strconv.uint64pow10" = some 3 := by kernel_rfl
  unfold TabP Lib.TabIs World.var? at h ⊢
  rw [hg] at h ⊢
  simp only [Option.bind_some] at h ⊢
  rw [hb.block 3 hC]
  exact h
abbrev decB (n : Nat) : ByteArray := ⟨(Lib.decDigits n).toArray⟩
abbrev zerB (n : Nat) : ByteArray := ⟨(Lib.repeatL [48] (13 - (Lib.decDigits n).length)).toArray⟩
abbrev segB : ByteArray := ⟨#[115, 101, 103]⟩
def nmB (n : Nat) : ByteArray := segB ++ zerB n ++ decB n
theorem nmB_list (n : Nat) : (nmB n).data.toList = [115, 101, 103] ++ padL n := by
  simp [nmB, padL, ByteArray.data_append]
theorem nmB_may (n : Nat) (h : n < 10000000000000) : V8.May (nmB n) := by
  have hl := nmB_list n
  have hn : (nmB n).size = 16 := by
    have : (nmB n).data.toList.length = 16 := by rw [hl, List.length_append, padL_length n h]; rfl
    simpa using this
  refine V8.mayD_ok ?_
  unfold V8.mayD
  rw [hn, hl]
  simp only [List.all_append, Bool.and_eq_true, decide_eq_true_eq, List.all_eq_true]
  refine ⟨⟨by decide, by decide⟩, by decide, fun c hc => ?_⟩
  have := padL_dig n c hc
  omega
theorem nmB_ne {a b : Nat} (h : a ≠ b) : (nmB a).data.toList ≠ (nmB b).data.toList := by
  rw [nmB_list, nmB_list]
  intro e
  exact h (padL_inj (List.append_cancel_left e))
theorem belowG (w : World) (k : Nat) (os : Array Obj) : Below w.heap.size w (Go.Sort.grow (w.drewN k) os) :=
  ⟨rfl, rfl, rfl, by simp [Go.Sort.grow], fun i hi => by
    show ((w.drewN k).heap ++ os)[i]? = _
    rw [Array.getElem?_append_left (by show i < w.heap.size; omega)]
    rfl⟩
set_option maxHeartbeats 1000000 in
theorem nameOf_gen (w : World) (n : Int) (c : Nat) (D Z N : ByteArray)
    (hI : Calls Tryz.prog 59 #[.int .i64 n] w fun e w' => e = .returned (.string D) ∧ Below w.heap.size w w')
    (hR : ∀ W, Calls Tryz.prog 60 #[.string ⟨#[48]⟩, .int .i64 (c : Nat)] W fun e w' => e = .returned (.string Z) ∧ Below W.heap.size W w')
    (hsub : wrap64 ((13 : Int) - (D.size : Int)) = ((c : Nat) : Int)) (h1 : ¬ 9223372036854775807 < 3 + Z.size) (h2 : ¬ 9223372036854775807 < 3 + Z.size + D.size) (hN : segB ++ Z ++ D = N) :
    Calls Tryz.prog 35 #[.int .i64 n] w fun e w' => e = .returned (.string N) ∧ Below w.heap.size w w' := by
  have H12 := hide (And.intro h1 h2)
  clear h1 h2
  have HI := hide hI
  have HR := hide hR
  have HN : Hid (segB ++ Z ++ D = N) := hN
  clear hI hR hN
  go_enter Tryz.func35, Tryz.ntmps35
  go_wp2_with fail
  refine HI.out.mono ?_
  rintro e w1 ⟨rfl, hb1⟩
  have H1 := hide hb1
  clear hb1 HI
  go_wp2_with fail
  refine (HR.out _).mono ?_
  rintro e w2 ⟨rfl, hb2⟩
  have H2 := hide (H1.out.trans (hb2.mono H1.out.size))
  clear hb2 H1 HR hsub
  obtain ⟨h1, h2⟩ := H12.out
  go_wp2
  go_ret
  exact ⟨by rw [← HN.out]; rfl, H2.out⟩
theorem nameOf_ok (w : World) (n : Nat) (hn : n < 10000000000000) (hP : TabP w) :
    Calls Tryz.prog 35 #[.int .i64 (n : Nat)] w fun e w' => e = .returned (.string (nmB n)) ∧ Below w.heap.size w w' := by
  have hd := dec_len n hn
  have hsz : (decB n).size = (Lib.decDigits n).length := by simp [ByteArray.size]
  have hz : (zerB n).size ≤ 13 := by
    have : (zerB n).size = (Lib.repeatL [48] (13 - (Lib.decDigits n).length)).length := by simp [ByteArray.size]
    rw [this, Lib.repeatL_length]
    simp
  refine nameOf_gen w (n : Nat) (13 - (Lib.decDigits n).length) (decB n) (zerB n) (nmB n) ?_ (fun W => ?_) ?_ (by omega) (by omega) rfl
  · refine (Tryz.strconv_Itoa (n : Int) (by omega) (by omega) w hP).mono ?_
    rintro e w' ⟨rfl, k, os, rfl⟩
    exact ⟨by rw [Lib.itoa_nonneg], belowG _ _ _⟩
  · exact Tryz.strings_Repeat ⟨#[48]⟩ (13 - (Lib.decDigits n).length) W (by omega) (by show 1 * (13 - (Lib.decDigits n).length) ≤ _; omega)
  · rw [hsz]
    unfold wrap64
    omega
end Go.Proofs.YtcjlcieheepegaaGreatDoor
namespace Go.Proofs.YtcjlcieheepegaaGreatDoor
open Go.RowKit
set_option linter.unusedVariables false
set_option maxRecDepth 20000
set_option maxRecDepth 20000

set_option maxHeartbeats 2000000 in
theorem openPart_ok (w : World) (d base Bd room cnt us : Nat) (F : List UInt8 → Option (List Nat × Nat)) (hd : V8.VD w Bd d room F cnt us) (hb : base ≤ 1099511627520) (hs : F (nmB base).data.toList = none) (hP : TabP w) :
    Calls Tryz.prog 22 #[.pointer (some ⟨d, 0, none⟩), .int .i64 (base : Nat)] w fun e w' => ∃ s p, e = .returned (.tuple #[.pointer (some ⟨p, 0, none⟩), .int .i64 0]) ∧ w'.heap[p]? = some (.cells #[.pointer (some ⟨s, 0, none⟩), .string (nmB base)] 55 (0, 0)) ∧ SG w' w.heap.size s d (nmB base) base [] ⟨base, 0, 0⟩ ∧ w.heap.size ≤ p ∧ Below w.heap.size w w' := by
  have HN := hide (nameOf_ok w base (by omega) hP)
  have HO : Hid (∀ W, Below w.heap.size w W → Calls Tryz.prog 36 #[.pointer (some ⟨d, 0, none⟩), .string (nmB base), .int .i64 (base : Nat)] W fun e w' => ∃ s, e = .returned (.tuple #[.pointer (some ⟨s, 0, none⟩), .int .i64 0, .int .i64 0]) ∧ SG w' W.heap.size s d (nmB base) base [] ⟨base, 0, 0⟩ ∧ Below W.heap.size W w') := fun W hW => open_none W d base (nmB base) Bd room cnt us F (hd.below hW) (nmB_may base (by omega)) hs hb
  obtain ⟨N, hN⟩ : ∃ N, nmB base = N := ⟨_, rfl⟩
  rw [hN] at HN HO ⊢
  clear hd hb hs hP hN
  go_enter Tryz.func22, Tryz.ntmps22
  go_wp2_with fail
  refine HN.out.mono ?_
  rintro e w1 ⟨rfl, hb1⟩
  have H1 := hide hb1
  have HO1 := hide (HO.out w1 hb1)
  clear hb1 HN HO
  go_wp2_with fail
  refine HO1.out.mono ?_
  rintro e w2 ⟨s, rfl, hsg, hb2⟩
  have H2 := hide (And.intro hsg (And.intro (H1.out.trans (hb2.mono H1.out.size)) (Nat.le_trans H1.out.size hb2.size)))
  have h12 := hide H1.out.size
  clear hb2 hsg H1 HO1
  obtain ⟨U, hU⟩ : ∃ U, w2.heap.size = U := ⟨_, rfl⟩
  have H3 : Hid ((w2.alloc (.cells #[.pointer (some ⟨s, 0, none⟩), .string N] 55)).heap[U]? = some (.cells #[.pointer (some ⟨s, 0, none⟩), .string N] 55 (0, 0)) ∧ SG (w2.alloc (.cells #[.pointer (some ⟨s, 0, none⟩), .string N] 55)) w1.heap.size s d N base [] ⟨base, 0, 0⟩ ∧ w.heap.size ≤ U ∧ Below w.heap.size w (w2.alloc (.cells #[.pointer (some ⟨s, 0, none⟩), .string N] 55))) := by
    refine ⟨by rw [← hU]; exact heap_alloc_new _ _, H2.out.1.below (below_a w2 _), by rw [← hU]; exact H2.out.2.2, H2.out.2.1.alloc H2.out.2.2 _⟩
  have h12' := h12.out
  clear H2 h12
  go_wp2
  go_ret2
  refine ⟨s, U, rfl, H3.out.1, ?_, H3.out.2.2.1, H3.out.2.2.2⟩
  obtain ⟨⟨pv, h1, h2, h3⟩, h4⟩ := H3.out.2.1
  refine ⟨⟨pv, h1, h2, ?_⟩, Nat.le_trans h12' h4⟩
  rcases h3 with e | ⟨g, cap, cur, e1, e2, e3, e4⟩
  · exact .inl e
  · exact .inr ⟨g, cap, cur, e1, Nat.le_trans h12' e2, e3, e4⟩
end Go.Proofs.YtcjlcieheepegaaGreatDoor
