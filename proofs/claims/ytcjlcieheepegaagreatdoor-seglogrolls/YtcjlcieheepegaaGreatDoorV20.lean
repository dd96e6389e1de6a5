/- Package batch: bytes that end too soon. -/
/- Package batch: unpacked, Of, of the bytes of a batch by no codec. -/
/- Package batch: Of, of the bytes of a batch by no codec. -/
import Derived.Test.YtcjlcieheepegaaGreatDoorV19
namespace Go.Proofs.YtcjlcieheepegaaGreatDoor
open Go.RowKit
set_option linter.unusedVariables false
set_option maxRecDepth 20000

/-- The batch that is none. -/
def bv0 : Value := .agg #[.int .i64 0, .int .i64 0, .int .i64 0, .int .i64 0, .int .i64 0, .slice none 0 0]
/-- summedOf tells these bytes as too short. -/
def Short (s : ByteArray) : Prop := ∀ W, Calls Tryz.prog 72 #[.string s] W fun e w' => e = .returned (.tuple #[.string ⟨#[]⟩, .int .i64 5]) ∧ w' = W
theorem short_few (s : ByteArray) (h : s.size < 10) : Short s := by
  intro W
  have hs : (s.size : Int) < 10 := by omega
  go_enter Tryz.func72, Tryz.ntmps72
  go_wp2
  go_ret2
  exact ⟨rfl, rfl⟩
set_option maxRecDepth 20000 in
set_option maxHeartbeats 1000000 in
theorem open_short (s : ByteArray) (w : World) (h : Short s) :
    Calls Tryz.prog 49 #[.string s] w fun e w' => e = .returned (.tuple #[.agg #[.int .i64 0, .int .i64 0, .int .i64 0, .int .i64 0, .int .i64 0, .slice none 0 0, .int .i64 0, .int .i64 0, .int .i64 0], .string ⟨#[]⟩, .int .i64 5]) ∧ Below w.heap.size w w' := by
  have HS : Hid (Short s) := h
  clear h
  have HA : Hid (Below w.heap.size w (w.alloc (.cells #[.int .i64 0, .int .i64 0, .int .i64 0, .int .i64 0, .int .i64 0, .slice none 0 0, .int .i64 0, .int .i64 0, .int .i64 0] 96))) := (Below.refl _ _).alloc (Nat.le_refl _) _
  have HR : Hid ((w.alloc (.cells #[.int .i64 0, .int .i64 0, .int .i64 0, .int .i64 0, .int .i64 0, .slice none 0 0, .int .i64 0, .int .i64 0, .int .i64 0] 96)).heap[w.heap.size]? = some (.cells #[.int .i64 0, .int .i64 0, .int .i64 0, .int .i64 0, .int .i64 0, .slice none 0 0, .int .i64 0, .int .i64 0, .int .i64 0] 96 (0, 0))) := heap_alloc_new _ _
  go_enter Tryz.func49, Tryz.ntmps49
  go_upto_region 1 with fail
  generalize hwA : w.alloc (.cells #[.int .i64 0, .int .i64 0, .int .i64 0, .int .i64 0, .int .i64 0, .slice none 0 0, .int .i64 0, .int .i64 0, .int .i64 0] 96) = wA at HA HR
  clear hwA
  obtain ⟨r0, r1, r2, r3, r4, r5, r6, r7, r8⟩ := cells9 HR.out
  have hfr := frozen0 HR.out
  go_wp2_with fail
  refine (HS.out _).mono ?_
  rintro e W ⟨rfl, hW⟩
  obtain rfl := hW.symm
  clear hW
  go_wp2
  refine bodyPost_ret (v := ?v) ?c1 rfl ?c2
  case c1 =>
    rw [results_cell_tmp2 rfl]
    go_simp
    all_goals exact rfl
  case c2 =>
    refine ⟨rfl, ?_⟩
    simp only [bl_set]
    exact HA.out
set_option maxRecDepth 20000 in
set_option maxHeartbeats 1000000 in
theorem bof_short (s : ByteArray) (w : World) (h : Short s) :
    Calls Tryz.prog 31 #[.string s] w fun e w' => e = .returned (.tuple #[bv0, .int .i64 0, .int .i64 5]) ∧ Below w.heap.size w w' := by
  have HO : Hid (∀ W, Calls Tryz.prog 49 #[.string s] W fun e w' => e = .returned (.tuple #[.agg #[.int .i64 0, .int .i64 0, .int .i64 0, .int .i64 0, .int .i64 0, .slice none 0 0, .int .i64 0, .int .i64 0, .int .i64 0], .string ⟨#[]⟩, .int .i64 5]) ∧ Below W.heap.size W w') := fun W => open_short s W h
  clear h
  unfold bv0
  have HA : Hid (Below w.heap.size w (w.alloc (.cells #[.int .i64 0, .int .i64 0, .int .i64 0, .int .i64 0, .int .i64 0, .slice none 0 0] 46))) := (Below.refl _ _).alloc (Nat.le_refl _) _
  have HR : Hid ((w.alloc (.cells #[.int .i64 0, .int .i64 0, .int .i64 0, .int .i64 0, .int .i64 0, .slice none 0 0] 46)).heap[w.heap.size]? = some (.cells #[.int .i64 0, .int .i64 0, .int .i64 0, .int .i64 0, .int .i64 0, .slice none 0 0] 46 (0, 0))) := heap_alloc_new _ _
  go_enter Tryz.func31, Tryz.ntmps31
  go_upto_region 1 with fail
  generalize hwA : w.alloc (.cells #[.int .i64 0, .int .i64 0, .int .i64 0, .int .i64 0, .int .i64 0, .slice none 0 0] 46) = wA at HA HR
  clear hwA
  go_wp2_with fail
  refine (HO.out _).mono ?_
  rintro e w1 ⟨rfl, hb1⟩
  have hb1' : Below wA.heap.size wA (w1.alloc (.cells #[.int .i64 0, .int .i64 0, .int .i64 0, .int .i64 0, .int .i64 0, .slice none 0 0, .int .i64 0, .int .i64 0, .int .i64 0] 96)) := hb1.alloc hb1.size _
  have H1r : Hid ((w1.alloc (.cells #[.int .i64 0, .int .i64 0, .int .i64 0, .int .i64 0, .int .i64 0, .slice none 0 0, .int .i64 0, .int .i64 0, .int .i64 0] 96)).heap[w.heap.size]? = some (.cells #[.int .i64 0, .int .i64 0, .int .i64 0, .int .i64 0, .int .i64 0, .slice none 0 0] 46 (0, 0))) := (hb1'.block _ (lt_of_block HR.out)).trans HR.out
  have H1w : Hid (Below w.heap.size w (w1.alloc (.cells #[.int .i64 0, .int .i64 0, .int .i64 0, .int .i64 0, .int .i64 0, .slice none 0 0, .int .i64 0, .int .i64 0, .int .i64 0] 96))) := HA.out.trans (hb1'.mono HA.out.size)
  clear hb1 hb1' HA HR
  go_upto_region 2 with fail
  generalize hwB : w1.alloc (.cells #[.int .i64 0, .int .i64 0, .int .i64 0, .int .i64 0, .int .i64 0, .slice none 0 0, .int .i64 0, .int .i64 0, .int .i64 0] 96) = wB at H1r H1w
  clear hwB
  obtain ⟨r0, r1, r2, r3, r4, r5⟩ := cells6 H1r.out
  have hfr := frozen0 H1r.out
  go_wp2
  refine bodyPost_ret (v := ?v) ?c1 rfl ?c2
  case c1 =>
    rw [results_cell_tmp2 rfl]
    go_simp
    all_goals exact rfl
  case c2 =>
    refine ⟨rfl, ?_⟩
    simp only [bl_set]
    exact H1w.out
set_option maxRecDepth 20000 in
set_option maxHeartbeats 1000000 in
theorem head_short (s : ByteArray) (w : World) (h : Short s) :
    Calls Tryz.prog 68 #[.string s] w fun e w' => e = .returned (.tuple #[bv0, .int .i64 0, .int .i64 5]) ∧ Below w.heap.size w w' := by
  have HO : Hid (∀ W, Calls Tryz.prog 49 #[.string s] W fun e w' => e = .returned (.tuple #[.agg #[.int .i64 0, .int .i64 0, .int .i64 0, .int .i64 0, .int .i64 0, .slice none 0 0, .int .i64 0, .int .i64 0, .int .i64 0], .string ⟨#[]⟩, .int .i64 5]) ∧ Below W.heap.size W w') := fun W => open_short s W h
  clear h
  unfold bv0
  have HA : Hid (Below w.heap.size w (w.alloc (.cells #[.int .i64 0, .int .i64 0, .int .i64 0, .int .i64 0, .int .i64 0, .slice none 0 0] 46))) := (Below.refl _ _).alloc (Nat.le_refl _) _
  have HR : Hid ((w.alloc (.cells #[.int .i64 0, .int .i64 0, .int .i64 0, .int .i64 0, .int .i64 0, .slice none 0 0] 46)).heap[w.heap.size]? = some (.cells #[.int .i64 0, .int .i64 0, .int .i64 0, .int .i64 0, .int .i64 0, .slice none 0 0] 46 (0, 0))) := heap_alloc_new _ _
  go_enter Tryz.func68, Tryz.ntmps68
  go_upto_region 1 with fail
  generalize hwA : w.alloc (.cells #[.int .i64 0, .int .i64 0, .int .i64 0, .int .i64 0, .int .i64 0, .slice none 0 0] 46) = wA at HA HR
  clear hwA
  go_wp2_with fail
  refine (HO.out _).mono ?_
  rintro e w1 ⟨rfl, hb1⟩
  have hb1' : Below wA.heap.size wA (w1.alloc (.cells #[.int .i64 0, .int .i64 0, .int .i64 0, .int .i64 0, .int .i64 0, .slice none 0 0, .int .i64 0, .int .i64 0, .int .i64 0] 96)) := hb1.alloc hb1.size _
  have H1r : Hid ((w1.alloc (.cells #[.int .i64 0, .int .i64 0, .int .i64 0, .int .i64 0, .int .i64 0, .slice none 0 0, .int .i64 0, .int .i64 0, .int .i64 0] 96)).heap[w.heap.size]? = some (.cells #[.int .i64 0, .int .i64 0, .int .i64 0, .int .i64 0, .int .i64 0, .slice none 0 0] 46 (0, 0))) := (hb1'.block _ (lt_of_block HR.out)).trans HR.out
  have H1w : Hid (Below w.heap.size w (w1.alloc (.cells #[.int .i64 0, .int .i64 0, .int .i64 0, .int .i64 0, .int .i64 0, .slice none 0 0, .int .i64 0, .int .i64 0, .int .i64 0] 96))) := HA.out.trans (hb1'.mono HA.out.size)
  clear hb1 hb1' HA HR
  go_upto_region 2 with fail
  generalize hwB : w1.alloc (.cells #[.int .i64 0, .int .i64 0, .int .i64 0, .int .i64 0, .int .i64 0, .slice none 0 0, .int .i64 0, .int .i64 0, .int .i64 0] 96) = wB at H1r H1w
  clear hwB
  obtain ⟨r0, r1, r2, r3, r4, r5⟩ := cells6 H1r.out
  have hfr := frozen0 H1r.out
  go_wp2
  refine bodyPost_ret (v := ?v) ?c1 rfl ?c2
  case c1 =>
    rw [results_cell_tmp2 rfl]
    go_simp
    all_goals exact rfl
  case c2 =>
    refine ⟨rfl, ?_⟩
    simp only [bl_set]
    exact H1w.out
end Go.Proofs.YtcjlcieheepegaaGreatDoor
namespace Go.Proofs.YtcjlcieheepegaaGreatDoor
open Go.RowKit
set_option linter.unusedVariables false
set_option maxRecDepth 20000

def H9 : HN → Nat → Array Value := fun h pl => #[.int .i64 (h.base : Nat), .int .i64 (h.cnt : Nat), .int .i64 (h.view : Nat), .int .i64 (h.prod : Nat), .int .i64 (h.seq : Nat), .slice none 0 0, .int .i64 0, .int .i64 (h.nrec : Nat), .int .i64 (pl : Nat)]
/-- How a batch's records come. -/
def RecEnd (w : World) (L : List Rec) (e : Ending) (w' : World) : Prop := ∃ v, e = .returned (.tuple #[v, .int .i64 0]) ∧ Own w' w.heap.size v L ∧ Below w.heap.size w w'
set_option maxRecDepth 20000 in
set_option maxHeartbeats 1000000 in
theorem unpacked_ok (h : HN) (ok : h.OK) (p : List UInt8) (L : List Rec) (w : World) (hp : 29 + p.length ≤ 262144) (hL : ofO p h.base h.nrec = some L) :
    Calls Tryz.prog 50 #[h.hv p.length, .string (mk p)] w (RecEnd w L) := by
  have HA : Hid (Below w.heap.size w (w.alloc (.cells (H9 h p.length) 96))) := (Below.refl _ _).alloc (Nat.le_refl _) _
  have HR : Hid ((w.alloc (.cells (H9 h p.length) 96)).heap[w.heap.size]? = some (.cells (H9 h p.length) 96 (0, 0))) := heap_alloc_new _ _
  have HC : Hid (∀ W, Calls Tryz.prog 74 #[.int .i64 0] W fun e w' => e = .returned (.tuple #[cod0, .bool true]) ∧ Below W.heap.size W w') := codecOf_ok
  have HLv : Hid (∀ W, Calls Tryz.prog 96 #[.string (mk p), .int .i64 (p.length : Nat)] W fun e w' => e = .returned (.tuple #[.string (mk p), .int .i64 (p.length : Nat), .int .i64 0]) ∧ w' = W) := fun W => by
    have := leaveAtMost_ok (mk p) W (by rw [mk_size]; omega)
    rw [mk_size] at this
    exact this
  have HO : Hid (∀ W, Calls Tryz.prog 75 #[.string (mk p), .int .i64 (h.base : Nat), .int .i64 (h.nrec : Nat)] W (RecEnd W L)) := fun W => by
    refine (of_ok p h.base h.nrec W (by have := ok.nrec; omega) (by omega)).mono ?_
    rintro e w' (⟨M, v, h1, h2, h3, h4⟩ | ⟨h1, _⟩)
    · rw [hL] at h1
      cases h1
      exact ⟨v, h2, h3, h4⟩
    · rw [hL] at h1; cases h1
  have hz : ((mk p).size : Int) = (p.length : Int) := by rw [mk_size]
  have hz2 : (mk p).size = p.length := mk_size p
  clear hL
  unfold HN.hv
  unfold H9 at HA HR
  unfold cod0 at HC
  generalize mk p = S at HLv HO hz hz2 ⊢
  generalize p.length = pl at HA HR HLv hz hz2 hp ⊢
  go_enter Tryz.func50, Tryz.ntmps50
  go_upto_region 1 with fail
  generalize hwA : w.alloc (.cells #[.int .i64 (h.base : Nat), .int .i64 (h.cnt : Nat), .int .i64 (h.view : Nat), .int .i64 (h.prod : Nat), .int .i64 (h.seq : Nat), .slice none 0 0, .int .i64 0, .int .i64 (h.nrec : Nat), .int .i64 (pl : Nat)] 96) = wA at HA HR
  clear hwA
  obtain ⟨r0, r1, r2, r3, r4, r5, r6, r7, r8⟩ := cells9 HR.out
  go_wp2_with fail
  refine (HC.out _).mono ?_
  rintro e w1 ⟨rfl, hb1⟩
  have hb1' : Below wA.heap.size wA (w1.alloc (.cells #[.func (.func 95) #[] #[], .func (.func 96) #[] #[]] 126)) := hb1.alloc hb1.size _
  have H1b : Hid ((w1.alloc (.cells #[.func (.func 95) #[] #[], .func (.func 96) #[] #[]] 126)).heap[w.heap.size]? = some (.cells #[.int .i64 (h.base : Nat), .int .i64 (h.cnt : Nat), .int .i64 (h.view : Nat), .int .i64 (h.prod : Nat), .int .i64 (h.seq : Nat), .slice none 0 0, .int .i64 0, .int .i64 (h.nrec : Nat), .int .i64 (pl : Nat)] 96 (0, 0))) := (hb1'.block _ (lt_of_block HR.out)).trans HR.out
  have H1w : Hid (Below w.heap.size w (w1.alloc (.cells #[.func (.func 95) #[] #[], .func (.func 96) #[] #[]] 126))) := HA.out.trans (hb1'.mono HA.out.size)
  have H1c : Hid ((w1.alloc (.cells #[.func (.func 95) #[] #[], .func (.func 96) #[] #[]] 126)).cell? ⟨w1.heap.size, 1, none⟩ = some (.func (.func 96) #[] #[])) := by simp [Hid]
  clear hb1 hb1' HA HR r0 r1 r2 r3 r4 r5 r6 r7 r8
  go_upto_region 2 with fail
  obtain ⟨b1, hb1⟩ : ∃ b, w1.heap.size = b := ⟨_, rfl⟩
  rw [hb1] at H1c ⊢
  generalize hwB : w1.alloc (.cells #[.func (.func 95) #[] #[], .func (.func 96) #[] #[]] 126) = wB at H1b H1w H1c ⊢
  clear hwB
  obtain ⟨r0, r1, r2, r3, r4, r5, r6, r7, r8⟩ := cells9 H1b.out
  have c1 := H1c.out
  go_wp2_with fail
  refine (HLv.out _).mono ?_
  rintro e W ⟨rfl, hW⟩
  obtain rfl := hW.symm
  clear hW
  go_wp2_with fail
  refine (HO.out _).mono ?_
  rintro e w2 ⟨v, rfl, ho, hb2⟩
  have H2 : Hid (Own w2 w.heap.size v L ∧ Below w.heap.size w w2) := ⟨⟨ho.1, ho.2.imp id (fun ⟨g, cap, cur, hv, hg, r⟩ => ⟨g, cap, cur, hv, Nat.le_trans H1w.out.size hg, r⟩)⟩, H1w.out.trans (hb2.mono H1w.out.size)⟩
  clear ho hb2
  go_wp2
  go_ret2
  exact ⟨v, rfl, H2.out.1, H2.out.2⟩
end Go.Proofs.YtcjlcieheepegaaGreatDoor
namespace Go.Proofs.YtcjlcieheepegaaGreatDoor
open Go.RowKit
set_option linter.unusedVariables false
set_option maxRecDepth 20000

/-- What Of answers of a batch. -/
def OfBat (w : World) (h : HN) (L : List Rec) (n : Nat) (e : Ending) (w' : World) : Prop := ∃ a cap, e = .returned (.tuple #[h.bv (.slice a L.length cap), .int .i64 (n : Nat), .int .i64 0]) ∧ Below w.heap.size w w'
set_option maxRecDepth 20000 in
set_option maxHeartbeats 1000000 in
theorem bof_ok (h : HN) (ok : h.OK) (p t : List UInt8) (L : List Rec) (w : World) (hT : TabF w) (hp : 29 + p.length ≤ 262144) (ht : t.length ≤ 140737488000000) (hL : ofO p h.base h.nrec = some L) (hlen : L.length ≤ 256) (hW : Within h L) :
    Calls Tryz.prog 31 #[.string (mk (batL h p ++ t))] w (OfBat w h L (39 + p.length)) := by
  have HA : Hid (Below w.heap.size w (w.alloc (.cells #[.int .i64 0, .int .i64 0, .int .i64 0, .int .i64 0, .int .i64 0, .slice none 0 0] 46))) := (Below.refl _ _).alloc (Nat.le_refl _) _
  have HR : Hid ((w.alloc (.cells #[.int .i64 0, .int .i64 0, .int .i64 0, .int .i64 0, .int .i64 0, .slice none 0 0] 46)).heap[w.heap.size]? = some (.cells #[.int .i64 0, .int .i64 0, .int .i64 0, .int .i64 0, .int .i64 0, .slice none 0 0] 46 (0, 0))) := heap_alloc_new _ _
  have HO : Hid (∀ W, TabF W → Calls Tryz.prog 49 #[.string (mk (batL h p ++ t))] W fun e w' => e = .returned (.tuple #[h.hv p.length, .string (mk p), .int .i64 0]) ∧ Below W.heap.size W w') := fun W hW => open_ok h ok p t W hW hp ht
  have HU : Hid (∀ W, Calls Tryz.prog 50 #[h.hv p.length, .string (mk p)] W (RecEnd W L)) := fun W => unpacked_ok h ok p L W hp hL
  have HW : Hid (∀ W a cap, RIn W a L → Calls Tryz.prog 51 #[h.bv (.slice a L.length cap)] W fun e w' => e = .returned (.bool true) ∧ Below W.heap.size W w') := fun W a cap hin => recordsWithin_ok h ok a cap L W hin (by omega) hW
  have HZ : Hid (∀ W, Calls Tryz.prog 52 #[.string (mk p)] W fun e w' => e = .returned (.int .i64 ((39 + p.length : Nat) : Int)) ∧ w' = W) := fun W => sizeOf_ok p W (by omega)
  have HT : Hid (TabF (w.alloc (.cells #[.int .i64 0, .int .i64 0, .int .i64 0, .int .i64 0, .int .i64 0, .slice none 0 0] 46))) := hT.new HA.out
  clear hT hL hW
  unfold OfBat
  unfold HN.hv at HO HU
  unfold HN.bv at HW ⊢
  generalize mk (batL h p ++ t) = s at HO ⊢
  generalize mk p = S at HO HU HZ
  generalize hN : 39 + p.length = N at HZ ⊢
  clear hN
  go_enter Tryz.func31, Tryz.ntmps31
  go_upto_region 1 with fail
  generalize hwA : w.alloc (.cells #[.int .i64 0, .int .i64 0, .int .i64 0, .int .i64 0, .int .i64 0, .slice none 0 0] 46) = wA at HA HR HT
  clear hwA
  go_wp2_with fail
  refine (HO.out _ HT.out).mono ?_
  rintro e w1 ⟨rfl, hb1⟩
  have hb1' : Below wA.heap.size wA (w1.alloc (.cells #[.int .i64 (h.base : Nat), .int .i64 (h.cnt : Nat), .int .i64 (h.view : Nat), .int .i64 (h.prod : Nat), .int .i64 (h.seq : Nat), .slice none 0 0, .int .i64 0, .int .i64 (h.nrec : Nat), .int .i64 (p.length : Nat)] 96)) := hb1.alloc hb1.size _
  have H1r : Hid ((w1.alloc (.cells #[.int .i64 (h.base : Nat), .int .i64 (h.cnt : Nat), .int .i64 (h.view : Nat), .int .i64 (h.prod : Nat), .int .i64 (h.seq : Nat), .slice none 0 0, .int .i64 0, .int .i64 (h.nrec : Nat), .int .i64 (p.length : Nat)] 96)).heap[w.heap.size]? = some (.cells #[.int .i64 0, .int .i64 0, .int .i64 0, .int .i64 0, .int .i64 0, .slice none 0 0] 46 (0, 0))) := (hb1'.block _ (lt_of_block HR.out)).trans HR.out
  have H1w : Hid (Below w.heap.size w (w1.alloc (.cells #[.int .i64 (h.base : Nat), .int .i64 (h.cnt : Nat), .int .i64 (h.view : Nat), .int .i64 (h.prod : Nat), .int .i64 (h.seq : Nat), .slice none 0 0, .int .i64 0, .int .i64 (h.nrec : Nat), .int .i64 (p.length : Nat)] 96))) := HA.out.trans (hb1'.mono HA.out.size)
  have H1b : Hid ((w1.alloc (.cells #[.int .i64 (h.base : Nat), .int .i64 (h.cnt : Nat), .int .i64 (h.view : Nat), .int .i64 (h.prod : Nat), .int .i64 (h.seq : Nat), .slice none 0 0, .int .i64 0, .int .i64 (h.nrec : Nat), .int .i64 (p.length : Nat)] 96)).heap[w1.heap.size]? = some (.cells #[.int .i64 (h.base : Nat), .int .i64 (h.cnt : Nat), .int .i64 (h.view : Nat), .int .i64 (h.prod : Nat), .int .i64 (h.seq : Nat), .slice none 0 0, .int .i64 0, .int .i64 (h.nrec : Nat), .int .i64 (p.length : Nat)] 96 (0, 0))) := heap_alloc_new _ _
  obtain ⟨b9, hb9⟩ : ∃ b, w1.heap.size = b := ⟨_, rfl⟩
  rw [hb9] at H1b
  clear hb1 hb1' HA HR HT
  go_upto_region 4 with fail
  generalize hwB : w1.alloc (.cells #[.int .i64 (h.base : Nat), .int .i64 (h.cnt : Nat), .int .i64 (h.view : Nat), .int .i64 (h.prod : Nat), .int .i64 (h.seq : Nat), .slice none 0 0, .int .i64 0, .int .i64 (h.nrec : Nat), .int .i64 (p.length : Nat)] 96) = wB at H1r H1w H1b
  clear hwB
  have HBn : Hid (Below wB.heap.size wB (wB.alloc (.cells #[.int .i64 (h.base : Nat), .int .i64 (h.cnt : Nat), .int .i64 (h.view : Nat), .int .i64 (h.prod : Nat), .int .i64 (h.seq : Nat), .slice none 0 0] 46))) := (Below.refl _ _).alloc (Nat.le_refl _) _
  have H2r : Hid ((wB.alloc (.cells #[.int .i64 (h.base : Nat), .int .i64 (h.cnt : Nat), .int .i64 (h.view : Nat), .int .i64 (h.prod : Nat), .int .i64 (h.seq : Nat), .slice none 0 0] 46)).heap[w.heap.size]? = some (.cells #[.int .i64 0, .int .i64 0, .int .i64 0, .int .i64 0, .int .i64 0, .slice none 0 0] 46 (0, 0))) := (HBn.out.block _ (lt_of_block H1r.out)).trans H1r.out
  have H2w : Hid (Below w.heap.size w (wB.alloc (.cells #[.int .i64 (h.base : Nat), .int .i64 (h.cnt : Nat), .int .i64 (h.view : Nat), .int .i64 (h.prod : Nat), .int .i64 (h.seq : Nat), .slice none 0 0] 46))) := H1w.out.trans (HBn.out.mono H1w.out.size)
  have H2b : Hid ((wB.alloc (.cells #[.int .i64 (h.base : Nat), .int .i64 (h.cnt : Nat), .int .i64 (h.view : Nat), .int .i64 (h.prod : Nat), .int .i64 (h.seq : Nat), .slice none 0 0] 46)).heap[b9]? = some (.cells #[.int .i64 (h.base : Nat), .int .i64 (h.cnt : Nat), .int .i64 (h.view : Nat), .int .i64 (h.prod : Nat), .int .i64 (h.seq : Nat), .slice none 0 0, .int .i64 0, .int .i64 (h.nrec : Nat), .int .i64 (p.length : Nat)] 96 (0, 0))) := (HBn.out.block _ (lt_of_block H1b.out)).trans H1b.out
  have H2c : Hid ((wB.alloc (.cells #[.int .i64 (h.base : Nat), .int .i64 (h.cnt : Nat), .int .i64 (h.view : Nat), .int .i64 (h.prod : Nat), .int .i64 (h.seq : Nat), .slice none 0 0] 46)).heap[wB.heap.size]? = some (.cells #[.int .i64 (h.base : Nat), .int .i64 (h.cnt : Nat), .int .i64 (h.view : Nat), .int .i64 (h.prod : Nat), .int .i64 (h.seq : Nat), .slice none 0 0] 46 (0, 0))) := heap_alloc_new _ _
  obtain ⟨d0, d1, d2, d3, d4, d5, d6, d7, d8⟩ := cells9 H1b.out
  have hble : w.heap.size ≤ wB.heap.size := H1w.out.size
  have hblt : w.heap.size < wB.heap.size := lt_of_block H1r.out
  obtain ⟨b6, hb6⟩ : ∃ b, wB.heap.size = b := ⟨_, rfl⟩
  rw [hb6] at H2c hble hblt
  clear HBn
  go_upto_region 5 with fail
  generalize hwC : wB.alloc (.cells #[.int .i64 (h.base : Nat), .int .i64 (h.cnt : Nat), .int .i64 (h.view : Nat), .int .i64 (h.prod : Nat), .int .i64 (h.seq : Nat), .slice none 0 0] 46) = wC at H2r H2w H2b H2c
  clear hwC d0 d1 d2 d3 d4 d5 d6 d7 d8 H1r H1w H1b
  obtain ⟨d0, d1, d2, d3, d4, d5, d6, d7, d8⟩ := cells9 H2b.out
  go_wp2_with fail
  refine (HU.out _).mono ?_
  rintro e w2 ⟨v, rfl, ho, hb2⟩
  obtain ⟨a, cap, rfl, hin⟩ := own_slice ho
  have H3r : Hid (w2.heap[w.heap.size]? = some (.cells #[.int .i64 0, .int .i64 0, .int .i64 0, .int .i64 0, .int .i64 0, .slice none 0 0] 46 (0, 0))) := (hb2.block _ (lt_of_block H2r.out)).trans H2r.out
  have H3w : Hid (Below w.heap.size w w2) := H2w.out.trans (hb2.mono H2w.out.size)
  have H3c : Hid (w2.heap[b6]? = some (.cells #[.int .i64 (h.base : Nat), .int .i64 (h.cnt : Nat), .int .i64 (h.view : Nat), .int .i64 (h.prod : Nat), .int .i64 (h.seq : Nat), .slice none 0 0] 46 (0, 0))) := (hb2.block _ (lt_of_block H2c.out)).trans H2c.out
  have hin2 : Hid (RIn (w2.setCell ⟨b6, 5, none⟩ (.slice a L.length cap)) a L) := fun i r hr => by
    obtain ⟨gb, off, e1, e2, e3, e4, e5, e6⟩ := hin i r hr
    have hne : gb ≠ b6 := by
      intro e
      rcases ho.2 with ⟨hv, _⟩ | ⟨g, cp, cur, hv, hB, hh, _⟩
      · have ha := (Value.slice.inj hv).1
        rw [ha] at e1; cases e1
      · have ha := (Value.slice.inj hv).1
        rw [ha] at e1
        have eg : g = gb := by simpa using congrArg (fun x => x.map Addr.block) e1
        have := lt_of_block H2c.out
        omega
    have hc : ∀ q, (w2.setCell ⟨b6, 5, none⟩ (.slice a L.length cap)).cell? ⟨gb, q, none⟩ = w2.cell? ⟨gb, q, none⟩ := fun q => by
      simp only [World.cell?]
      rw [Below.heap_setCell _ _ _ _ (by show gb ≠ b6; exact hne)]
    exact ⟨gb, off, e1, by simpa [World.setCell] using e2, (hc _).trans e3, (hc _).trans e4, (hc _).trans e5, (hc _).trans e6⟩
  have H4r : Hid ((w2.setCell ⟨b6, 5, none⟩ (.slice a L.length cap)).heap[w.heap.size]? = some (.cells #[.int .i64 0, .int .i64 0, .int .i64 0, .int .i64 0, .int .i64 0, .slice none 0 0] 46 (0, 0))) := (Below.heap_setCell _ _ _ _ (by show w.heap.size ≠ b6; omega)).trans H3r.out
  have H4w : Hid (Below w.heap.size w (w2.setCell ⟨b6, 5, none⟩ (.slice a L.length cap))) := H3w.out.trans (below_set _ _ hble)
  have H4c : Hid ((w2.setCell ⟨b6, 5, none⟩ (.slice a L.length cap)).heap[b6]? = some (.cells #[.int .i64 (h.base : Nat), .int .i64 (h.cnt : Nat), .int .i64 (h.view : Nat), .int .i64 (h.prod : Nat), .int .i64 (h.seq : Nat), .slice a L.length cap] 46 (0, 0))) := block_set H3c.out
  have fz := frozen0 H3c.out 5
  obtain ⟨c0, c1, c2, c3, c4, c5⟩ := cells6 H3c.out
  clear hin ho hb2 d0 d1 d2 d3 d4 d5 d6 d7 d8 H2r H2w H2b H2c
  go_upto_region 6 with fail
  generalize hwD : w2.setCell ⟨b6, 5, none⟩ (.slice a L.length cap) = wD at hin2 H4r H4w H4c
  clear hwD c0 c1 c2 c3 c4 c5 fz H3r H3w H3c
  obtain ⟨c0, c1, c2, c3, c4, c5⟩ := cells6 H4c.out
  go_wp2_with fail
  refine (HW.out _ _ _ hin2.out).mono ?_
  rintro e w3 ⟨rfl, hb3⟩
  have H5r : Hid (w3.heap[w.heap.size]? = some (.cells #[.int .i64 0, .int .i64 0, .int .i64 0, .int .i64 0, .int .i64 0, .slice none 0 0] 46 (0, 0))) := (hb3.block _ (lt_of_block H4r.out)).trans H4r.out
  have H5w : Hid (Below w.heap.size w w3) := H4w.out.trans (hb3.mono H4w.out.size)
  have H5c : Hid (w3.heap[b6]? = some (.cells #[.int .i64 (h.base : Nat), .int .i64 (h.cnt : Nat), .int .i64 (h.view : Nat), .int .i64 (h.prod : Nat), .int .i64 (h.seq : Nat), .slice a L.length cap] 46 (0, 0))) := (hb3.block _ (lt_of_block H4c.out)).trans H4c.out
  have H5i : Hid (RIn w3 a L) := hin2.out.below hb3 (Nat.le_refl _)
  clear hb3 c0 c1 c2 c3 c4 c5 hin2 H4r H4w H4c
  obtain ⟨c0, c1, c2, c3, c4, c5⟩ := cells6 H5c.out
  obtain ⟨r0, r1, r2, r3, r4, r5⟩ := cells6 H5r.out
  have hfr := frozen0 H5r.out
  go_wp2
  go_region_with (go_at_call 52; refine (HZ.out _).mono ?_; rintro e W ⟨rfl, hW⟩; obtain rfl := hW.symm; clear hW)
  all_goals (
    go_wp2
    refine bodyPost_ret (v := ?v) ?c1 rfl ?c2
    case c1 =>
      rw [results_cell_tmp2 rfl]
      go_simp
      all_goals exact rfl
    case c2 =>
      refine ⟨a, cap, rfl, ?_⟩
      simp only [bl_drew, bl_set]
      exact H5w.out)
end Go.Proofs.YtcjlcieheepegaaGreatDoor
