/- The document's Bytes of messages. -/
import Derived.Test.YtalpbnkmppdgdaaEWrv
import Derived.Test.YtalpbnkmppdgdaaEAx
import Derived.Test.YtalpbnkmppdgdaaV13
namespace Go.Proofs.Ytalpbnkmppdgdaa
open Go.RowKit
set_option linter.unusedVariables false

theorem OB.slice {w : World} {B : Nat} {v : Value} {l : List UInt8} (h : OB w B v l) : ∃ a c, v = .slice a l.length c := by
  rcases h.2 with ⟨rfl, hn⟩ | ⟨g, cap, cur, rfl, _, _⟩
  · exact ⟨none, 0, by rw [hn]⟩
  · exact ⟨_, cap, rfl⟩
set_option maxHeartbeats 1000000 in
theorem rput_ok (B : Nat) (v : Value) (l : List UInt8) (n : Nat) (w : World) (h : OB w B v l) (hn : n ≤ 9223372036854775807) (hlen : l.length ≤ 2000000000) (hB : B ≤ w.heap.size) :
    Calls Try.prog 24 #[v, .int .i64 n] w fun e w' => ∃ v', e = .returned v' ∧ OB w' B v' (l ++ vb n) ∧ Below B w w' := by
  have HP : Hid (∀ W, Calls Try.prog 37 #[.int .i64 n] W fun e w' => e = .returned (.tuple #[.string (mk (vb n)), .int .i64 0]) ∧ Below W.heap.size W w') := fun W => refPutVar n W hn
  have HZ : Hid ((mk (vb n)).data.toList = vb n ∧ (mk (vb n)).size ≤ 10) := ⟨mk_toList _, by rw [mk_size]; exact vb_length n⟩
  generalize mk (vb n) = z at HP HZ
  have HO : Hid (OB w B v l) := h
  clear h
  go_enter Try.func24, Try.ntmps24
  go_wp2_with fail
  refine (HP.out _).mono ?_
  rintro e w1 ⟨rfl, hb1⟩
  have HO1 : Hid (OB w1 B v l) := HO.out.below hb1
  have HB1 : Hid (Below B w w1) := hb1.mono hB
  have hs1 : B ≤ w1.heap.size := HB1.out.size |> Nat.le_trans hB
  clear hb1
  go_wp2_with (first
    | (at_builtin; refine wpList_append_txt rfl _ _ rfl B v l rfl HO1.out z rfl (by have := HZ.out; omega) hs1 ?_; intro v3 w3 ho3 hg3; have HF3 : Hid (Below B w w3) := HB1.out.trans (OB.frame HO1.out hg3 hs1); have HO3 : Hid (OB w3 B v3 (l ++ z.data.toList)) := ho3; clear ho3 hg3)
    | fail)
  go_ret
  refine ⟨v3, rfl, ?_, HF3.out⟩
  rw [← HZ.out.1]
  exact HO3.out
/-- What is known while Bytes writes. -/
structure ZS (w wr : World) (m : Msg) (s : Spot) (B mb nb : Nat) (V : Value) (l : List UInt8) : Prop where
  ma : MB wr mb m s
  na : NB wr nb m
  own : OB wr B V l
  bel : Below w.heap.size w wr
  mlt : mb < B
  nlt : nb < B
  size : B ≤ wr.heap.size
  low : w.heap.size ≤ B
theorem ZS.step {w wr w1 : World} {m : Msg} {s : Spot} {B mb nb : Nat} {V V1 : Value} {l l1 : List UInt8} (h : ZS w wr m s B mb nb V l) (ho : OB w1 B V1 l1) (hb : Below B wr w1) : ZS w w1 m s B mb nb V1 l1 :=
  ⟨(hb.block _ h.mlt).trans h.ma, (hb.block _ h.nlt).trans h.na, ho, h.bel.trans (hb.mono h.low), h.mlt, h.nlt, Nat.le_trans h.size hb.size, h.low⟩
theorem long_prefix {m : Msg} {M T : List ByteArray} (hT : m.log = M ++ T) (h : 1048576 < (numsL m.ns ++ (vb m.log.length ++ logL M)).length) : ¬ (msgL m).length ≤ 1048576 := by
  unfold msgL
  have : (logL m.log).length = (logL M).length + (logL T).length := by rw [hT, logL_append, List.length_append]
  simp only [List.length_append] at h ⊢
  omega
end Go.Proofs.Ytalpbnkmppdgdaa
