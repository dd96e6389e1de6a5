/- The bytes of a batch by no codec, as lists: the plain mathematics. -/
/- Package batch, its small functions: isWithin, numbersMayBe, codecOf, leaveAtMost; strings.HasPrefix. -/
/- Package batch: summedOf, headOf, open, of the bytes of a batch by no codec. -/
/- Package batch: headOf, open, Head, of the bytes of a batch by no codec. -/
/- Package batch: open, Head, of the bytes of a batch by no codec. -/
/- Package batch: recordsWithin. -/
import Derived.Test.YtcjlcieheepegaaGreatDoorV15
import Derived.Test.YtcjlcieheepegaaGreatDoorV11
import Derived.Test.YtcjlcieheepegaaGreatDoorV05
import Derived.Deep.RegionHeldLaw
namespace Go.Proofs.YtcjlcieheepegaaGreatDoor
open Go.RowKit
set_option linter.unusedVariables false
set_option maxRecDepth 20000

theorem mk_app (a b : List UInt8) : mk a ++ mk b = mk (a ++ b) := by
  apply ByteArray.ext
  simp [mk]
/-- A number as k bytes. -/
def fxL (n k : Nat) : List UInt8 := (fixB n k).map UInt8.ofNat
theorem toBA_fx (n k : Nat) : toBA (fixB n k) = mk (fxL n k) := rfl
theorem fxL_length (n k : Nat) : (fxL n k).length = k := by simp [fxL, fixB_length]
theorem fixN_fx (n k : Nat) (r : List UInt8) (h : n < 2 ^ (8 * k)) : fixN (mk (fxL n k ++ r)) k = n := by
  rw [← mk_app, ← toBA_fx]; exact fixN_fixB n k _ h
theorem drop_fx (n k : Nat) (r : List UInt8) : (fxL n k ++ r).drop k = r := by
  have := List.drop_left (l₁ := fxL n k) (l₂ := r)
  rwa [fxL_length] at this
/-- What a batch's head tells: base, count, view, producer, seq, how many records. -/
structure HN where
  base : Nat
  cnt : Nat
  view : Nat
  prod : Nat
  seq : Nat
  nrec : Nat
/-- A head that may be. -/
structure HN.OK (h : HN) : Prop where
  base : h.base ≤ 1099511627520
  cnt1 : 1 ≤ h.cnt
  cnt : h.cnt ≤ 256
  view : h.view ≤ 2147483647
  prod : h.prod ≤ 2147483647
  seq : h.seq ≤ 2147483647
  nrec : h.nrec ≤ 256
def sumL (h : HN) (p : List UInt8) : List UInt8 := fxL h.base 8 ++ (fxL h.cnt 2 ++ (fxL h.view 4 ++ (fxL h.prod 4 ++ (fxL h.seq 4 ++ (fxL 0 1 ++ (fxL h.nrec 2 ++ (fxL p.length 4 ++ p)))))))
theorem sumL_length (h : HN) (p : List UInt8) : (sumL h p).length = 29 + p.length := by simp only [sumL, List.length_append, fxL_length]; omega
def crcL (l : List UInt8) : Nat := S2.crcOf (l.map UInt8.toNat)
theorem BL_mk (l : List UInt8) : S2.BL (mk l) = l.map UInt8.toNat := by unfold S2.BL; rw [mk_toList]
theorem crcL_lt (l : List UInt8) : crcL l < 4294967296 := by
  have := S2.crcFrom_lt 0 (S2.BL (mk l)) (by omega) (S2.BL_lt _)
  rw [BL_mk] at this
  exact this
/-- Its bytes. -/
def batL (h : HN) (p : List UInt8) : List UInt8 := [80, 66] ++ (fxL (29 + p.length) 4 ++ (fxL (crcL (sumL h p)) 4 ++ sumL h p))
theorem batL_length (h : HN) (p : List UInt8) : (batL h p).length = 39 + p.length := by
  simp only [batL, List.length_append, fxL_length, sumL_length, List.length_cons, List.length_nil]; omega
end Go.Proofs.YtcjlcieheepegaaGreatDoor
namespace Go.Proofs.YtcjlcieheepegaaGreatDoor
open Go.RowKit
set_option linter.unusedVariables false
set_option maxRecDepth 20000

theorem results_cell {fn : Func} {p : Tmp} {ty : TypeId} (h : fn.results = #[.cell p ty]) (tmps : Array Value) (P : Program) (w : World) :
    (results fn tmps).run P w = ((asAddr (tmps.getD p undef)).run P w).andThen fun a w₁ => (loadVar ty a).run P w₁ := by
  simp only [results, h]
  simp [Sem.run_bind, Result.andThen]
theorem results_cell_tmp {fn : Func} {p q : Tmp} {ty : TypeId} (h : fn.results = #[.cell p ty, .tmp q]) (tmps : Array Value) (P : Program) (w : World) :
    (results fn tmps).run P w = ((asAddr (tmps.getD p undef)).run P w).andThen fun a w₁ => ((loadVar ty a).run P w₁).andThen fun v w₂ => .ok (.tuple #[v, tmps.getD q undef]) w₂ := by
  simp only [results, h]
  simp [Sem.run_bind, Result.andThen]
theorem results_cell_tmp2 {fn : Func} {p q r : Tmp} {ty : TypeId} (h : fn.results = #[.cell p ty, .tmp q, .tmp r]) (tmps : Array Value) (P : Program) (w : World) :
    (results fn tmps).run P w = ((asAddr (tmps.getD p undef)).run P w).andThen fun a w₁ => ((loadVar ty a).run P w₁).andThen fun v w₂ => .ok (.tuple #[v, tmps.getD q undef, tmps.getD r undef]) w₂ := by
  simp only [results, h]
  simp [Sem.run_bind, Result.andThen]
theorem results_cell2 {fn : Func} {p q : Tmp} {ty tz : TypeId} (h : fn.results = #[.cell p ty, .cell q tz]) (tmps : Array Value) (P : Program) (w : World) :
    (results fn tmps).run P w = ((asAddr (tmps.getD p undef)).run P w).andThen fun a w₁ => ((loadVar ty a).run P w₁).andThen fun v w₂ => ((asAddr (tmps.getD q undef)).run P w₂).andThen fun b w₃ => ((loadVar tz b).run P w₃).andThen fun u w₄ => .ok (.tuple #[v, u]) w₄ := by
  simp only [results, h]
  simp [Sem.run_bind, Result.andThen]
theorem isWithin_yes (n a b : Int) (w : World) (h1 : a ≤ n) (h2 : n ≤ b) : Calls Tryz.prog 76 #[.int .i64 n, .int .i64 a, .int .i64 b] w fun e w' => e = .returned (.bool true) ∧ w' = w := by
  go_enter Tryz.func76, Tryz.ntmps76
  go_wp2
  go_ret
  exact ⟨rfl, rfl⟩
/-- A batch as a value: its head, and its records. -/
def HN.bv (h : HN) (v : Value) : Value := .agg #[.int .i64 (h.base : Nat), .int .i64 (h.cnt : Nat), .int .i64 (h.view : Nat), .int .i64 (h.prod : Nat), .int .i64 (h.seq : Nat), v]
set_option maxHeartbeats 1000000 in
theorem numbersMayBe_yes (h : HN) (ok : h.OK) (ao : Option Addr) (ln cp : Nat) (w : World) :
    Calls Tryz.prog 94 #[h.bv (.slice ao ln cp)] w fun e w' => e = .returned (.bool true) ∧ Below w.heap.size w w' := by
  obtain ⟨base, cnt, view, prod, seq, nrec⟩ := h
  obtain ⟨o1, o2, o3, o4, o5, o6, o7⟩ := ok
  simp only at o1 o2 o3 o4 o5 o6 o7
  unfold HN.bv
  have HB : Hid (Below w.heap.size w (w.alloc (.cells #[.int .i64 (base : Nat), .int .i64 (cnt : Nat), .int .i64 (view : Nat), .int .i64 (prod : Nat), .int .i64 (seq : Nat), .slice ao ln cp] 46))) := (Below.refl _ _).alloc (Nat.le_refl _) _
  have H1 : Hid (∀ W, Calls Tryz.prog 76 #[.int .i64 (base : Nat), .int .i64 0, .int .i64 1099511627520] W fun e w' => e = .returned (.bool true) ∧ w' = W) := fun W => isWithin_yes _ _ _ W (by omega) (by omega)
  have H2 : Hid (∀ W, Calls Tryz.prog 76 #[.int .i64 (cnt : Nat), .int .i64 1, .int .i64 256] W fun e w' => e = .returned (.bool true) ∧ w' = W) := fun W => isWithin_yes _ _ _ W (by omega) (by omega)
  have H3 : Hid (∀ W, Calls Tryz.prog 76 #[.int .i64 (view : Nat), .int .i64 0, .int .i64 2147483647] W fun e w' => e = .returned (.bool true) ∧ w' = W) := fun W => isWithin_yes _ _ _ W (by omega) (by omega)
  have H4 : Hid (∀ W, Calls Tryz.prog 76 #[.int .i64 (prod : Nat), .int .i64 0, .int .i64 2147483647] W fun e w' => e = .returned (.bool true) ∧ w' = W) := fun W => isWithin_yes _ _ _ W (by omega) (by omega)
  have H5 : Hid (∀ W, Calls Tryz.prog 76 #[.int .i64 (seq : Nat), .int .i64 0, .int .i64 2147483647] W fun e w' => e = .returned (.bool true) ∧ w' = W) := fun W => isWithin_yes _ _ _ W (by omega) (by omega)
  clear o1 o2 o3 o4 o5 o6 o7
  go_enter Tryz.func94, Tryz.ntmps94
  go_wp2_with fail
  refine (H1.out _).mono ?_
  rintro e W ⟨rfl, hW⟩
  obtain rfl := hW.symm
  clear hW
  go_wp2_with fail
  refine (H2.out _).mono ?_
  rintro e W ⟨rfl, hW⟩
  obtain rfl := hW.symm
  clear hW
  go_wp2_with fail
  refine (H3.out _).mono ?_
  rintro e W ⟨rfl, hW⟩
  obtain rfl := hW.symm
  clear hW
  go_wp2_with fail
  refine (H4.out _).mono ?_
  rintro e W ⟨rfl, hW⟩
  obtain rfl := hW.symm
  clear hW
  go_wp2_with fail
  refine (H5.out _).mono ?_
  rintro e W ⟨rfl, hW⟩
  obtain rfl := hW.symm
  clear hW
  go_wp2
  go_ret
  exact ⟨rfl, HB.out⟩
/-- The codec of the number 0. -/
def cod0 : Value := .agg #[.func (.func 95) #[] #[], .func (.func 96) #[] #[]]
set_option maxHeartbeats 1000000 in
theorem codecOf_ok (w : World) : Calls Tryz.prog 74 #[.int .i64 0] w fun e w' => e = .returned (.tuple #[cod0, .bool true]) ∧ Below w.heap.size w w' := by
  unfold cod0
  go_enter Tryz.func74, Tryz.ntmps74
  go_wp2
  refine bodyPost_ret (v := .tuple #[cod0, .bool true]) ?_ rfl ?_
  · rw [results_cell_tmp rfl]
    go_simp
    rfl
  · exact ⟨rfl, ((Below.refl _ _).alloc (Nat.le_refl _) _).alloc (by simp) _⟩
theorem leaveAtMost_ok (s : ByteArray) (w : World) (hs : s.size ≤ 9223372036854775807) : Calls Tryz.prog 96 #[.string s, .int .i64 (s.size : Nat)] w fun e w' => e = .returned (.tuple #[.string s, .int .i64 (s.size : Nat), .int .i64 0]) ∧ w' = w := by
  go_enter Tryz.func96, Tryz.ntmps96
  go_wp2
  go_ret3
  exact ⟨rfl, rfl⟩
theorem hasPB' (s : ByteArray) (w : World) (hs : 2 ≤ s.size) (hx : s.extract 0 2 = ⟨#[80, 66]⟩) : Calls Tryz.prog 107 #[.string s, .string ⟨#[80, 66]⟩] w fun e w' => e = .returned (.bool true) ∧ w' = w := by
  have hs' : (2 : Int) ≤ (s.size : Int) := by omega
  go_enter Tryz.func107, Tryz.ntmps107
  go_wp2
  go_ret
  exact ⟨rfl, rfl⟩
theorem hasPB (s : ByteArray) (w : World) (hs : 2 ≤ s.size) (hx : s.extract 0 2 = ⟨#[80, 66]⟩) : Calls Tryz.prog 80 #[.string s, .string ⟨#[80, 66]⟩] w fun e w' => e = .returned (.bool true) ∧ w' = w := by
  have HP : Hid (∀ W, Calls Tryz.prog 107 #[.string s, .string ⟨#[80, 66]⟩] W fun e w' => e = .returned (.bool true) ∧ w' = W) := fun W => hasPB' s W hs hx
  clear hs hx
  go_enter Tryz.func80, Tryz.ntmps80
  go_wp2_with fail
  refine (HP.out _).mono ?_
  rintro e W ⟨rfl, hW⟩
  obtain rfl := hW.symm
  clear hW
  go_wp2
  go_ret
  exact ⟨rfl, rfl⟩
end Go.Proofs.YtcjlcieheepegaaGreatDoor
namespace Go.Proofs.YtcjlcieheepegaaGreatDoor
open Go.RowKit
set_option linter.unusedVariables false
set_option maxRecDepth 20000

/-- The table of the fields' widths lies in block 0. -/
def TabF (w : World) : Prop := 0 < w.heap.size ∧ w.cell? ⟨0, 0, none⟩ = some (.int .i64 8) ∧ w.cell? ⟨0, 1, none⟩ = some (.int .i64 2) ∧ w.cell? ⟨0, 2, none⟩ = some (.int .i64 4) ∧ w.cell? ⟨0, 3, none⟩ = some (.int .i64 4) ∧ w.cell? ⟨0, 4, none⟩ = some (.int .i64 4) ∧ w.cell? ⟨0, 5, none⟩ = some (.int .i64 1) ∧ w.cell? ⟨0, 6, none⟩ = some (.int .i64 2) ∧ w.cell? ⟨0, 7, none⟩ = some (.int .i64 4)
theorem TabF.below {w w' : World} {B : Nat} (h : TabF w) (hb : Below B w w') (hB : 0 < B) : TabF w' := by
  obtain ⟨h0, h1⟩ := h
  refine ⟨Nat.lt_of_lt_of_le h0 hb.size, ?_⟩
  simp only [cell_below hb hB]
  exact h1
theorem TabF.new {w w' : World} (h : TabF w) (hb : Below w.heap.size w w') : TabF w' := h.below hb h.1
set_option maxHeartbeats 1000000 in
theorem summedOf_gen (s S : ByteArray) (n c : Nat) (w : World) (h10 : 10 ≤ s.size) (hn1 : 29 ≤ n) (hn2 : n ≤ 262144) (hsn : 10 + n ≤ s.size) (hsz : s.size ≤ 140737488355328) (hx : s.extract 0 2 = ⟨#[80, 66]⟩)
    (HF1 : ∀ W, Calls Tryz.prog 92 #[.string (s.extract 2 s.size), .int .i64 4] W fun e w' => e = .returned (.tuple #[.int .i64 (n : Nat), .int .i64 0]) ∧ w' = W)
    (HF2 : ∀ W, Calls Tryz.prog 92 #[.string (s.extract 6 s.size), .int .i64 4] W fun e w' => e = .returned (.tuple #[.int .i64 (c : Nat), .int .i64 0]) ∧ w' = W)
    (HX : s.extract 10 (10 + n) = S)
    (HC : ∀ W, Calls Tryz.prog 93 #[.string S] W fun e w' => e = .returned (.int .i64 (c : Nat)) ∧ Below W.heap.size W w') :
    Calls Tryz.prog 72 #[.string s] w fun e w' => e = .returned (.tuple #[.string S, .int .i64 0]) ∧ Below w.heap.size w w' := by
  have HP : Hid (∀ W, Calls Tryz.prog 80 #[.string s, .string ⟨#[80, 66]⟩] W fun e w' => e = .returned (.bool true) ∧ w' = W) := fun W => hasPB s W (by omega) hx
  have HW : Hid (∀ W, Calls Tryz.prog 76 #[.int .i64 (n : Nat), .int .i64 29, .int .i64 262144] W fun e w' => e = .returned (.bool true) ∧ w' = W) := fun W => isWithin_yes _ _ _ W (by omega) (by omega)
  have H1 : Hid _ := HF1
  have H2 : Hid _ := HF2
  have H3 : Hid _ := HC
  clear HF1 HF2 HC hx
  have hs1 : ¬ (s.size : Int) < 10 := by omega
  have hs2 : ¬ (s.size : Int) < 10 + (n : Int) := by omega
  go_enter Tryz.func72, Tryz.ntmps72
  go_wp2_with fail
  refine (H1.out _).mono ?_
  rintro e W ⟨rfl, hW⟩
  obtain rfl := hW.symm
  clear hW
  go_wp2_with fail
  refine (HP.out _).mono ?_
  rintro e W ⟨rfl, hW⟩
  obtain rfl := hW.symm
  clear hW
  go_wp2_with fail
  refine (HW.out _).mono ?_
  rintro e W ⟨rfl, hW⟩
  obtain rfl := hW.symm
  clear hW
  go_wp2_with fail
  refine (H2.out _).mono ?_
  rintro e W ⟨rfl, hW⟩
  obtain rfl := hW.symm
  clear hW
  go_wp2_with fail
  refine (H3.out _).mono ?_
  rintro e w1 ⟨rfl, hb⟩
  have HB : Hid (Below w.heap.size w w1) := hb
  clear hb
  go_wp2
  go_ret2
  exact ⟨rfl, HB.out⟩
theorem mk_extract (R : List UInt8) (i j : Nat) : (mk R).extract i j = mk ((R.take j).drop i) := by
  apply ByteArray.ext
  rw [ByteArray.data_extract]
  show R.toArray.extract i j = ((R.take j).drop i).toArray
  rw [List.drop_take]
  simp
/-- The bytes below the sum. -/
theorem summedOf_ok (h : HN) (p t : List UInt8) (w : World) (hp : 29 + p.length ≤ 262144) (ht : t.length ≤ 140737488000000) :
    Calls Tryz.prog 72 #[.string (mk (batL h p ++ t))] w fun e w' => e = .returned (.tuple #[.string (mk (sumL h p)), .int .i64 0]) ∧ Below w.heap.size w w' := by
  have hl := batL_length h p
  have hsl := sumL_length h p
  have hcl := crcL_lt (sumL h p)
  have hsz : (mk (batL h p ++ t)).size = 39 + p.length + t.length := by rw [mk_size, List.length_append, hl]
  have e2 : (mk (batL h p ++ t)).extract 2 (mk (batL h p ++ t)).size = mk (fxL (29 + p.length) 4 ++ ((fxL (crcL (sumL h p)) 4 ++ sumL h p) ++ t)) := by
    rw [extract_drop]; congr 1
  have e6 : (mk (batL h p ++ t)).extract 6 (mk (batL h p ++ t)).size = mk (fxL (crcL (sumL h p)) 4 ++ (sumL h p ++ t)) := by
    rw [extract_drop]; congr 1
  refine summedOf_gen _ _ (29 + p.length) (crcL (sumL h p)) w (by omega) (by omega) hp (by omega) (by omega) ?_ (fun W => ?_) (fun W => ?_) ?_ (fun W => ?_)
  · rw [extract_take]; rfl
  · rw [e2]
    have hf := fixN_fx (29 + p.length) 4 ((fxL (crcL (sumL h p)) 4 ++ sumL h p) ++ t) (by omega)
    have := fixed (mk (fxL (29 + p.length) 4 ++ ((fxL (crcL (sumL h p)) 4 ++ sumL h p) ++ t))) 4 W (by omega) (by omega) (by rw [mk_size]; simp [fxL_length]) (by rw [hf]; omega)
    rw [hf] at this; exact this
  · rw [e6]
    have hf := fixN_fx (crcL (sumL h p)) 4 (sumL h p ++ t) (by omega)
    have := fixed (mk (fxL (crcL (sumL h p)) 4 ++ (sumL h p ++ t))) 4 W (by omega) (by omega) (by rw [mk_size]; simp [fxL_length]) (by rw [hf]; omega)
    rw [hf] at this; exact this
  · rw [mk_extract]; congr 1
    have e : batL h p ++ t = ([80, 66] ++ fxL (29 + p.length) 4 ++ fxL (crcL (sumL h p)) 4) ++ (sumL h p ++ t) := by simp [batL]
    have el : ([80, 66] ++ fxL (29 + p.length) 4 ++ fxL (crcL (sumL h p)) 4 : List UInt8).length = 10 := by simp [fxL_length]
    rw [e, List.drop_take, show 10 + (29 + p.length) - 10 = 29 + p.length by omega, ← el, List.drop_left, ← hsl, List.take_left]
  · have := S2.crc (mk (sumL h p)) W (by rw [mk_size, hsl]; omega)
    rw [BL_mk] at this
    exact this
/-- The fields of a head, from each one on. -/
def restL (h : HN) (p : List UInt8) : Nat → List UInt8
  | 0 => fxL h.base 8 ++ (fxL h.cnt 2 ++ (fxL h.view 4 ++ (fxL h.prod 4 ++ (fxL h.seq 4 ++ (fxL 0 1 ++ (fxL h.nrec 2 ++ (fxL p.length 4 ++ p)))))))
  | 1 => fxL h.cnt 2 ++ (fxL h.view 4 ++ (fxL h.prod 4 ++ (fxL h.seq 4 ++ (fxL 0 1 ++ (fxL h.nrec 2 ++ (fxL p.length 4 ++ p))))))
  | 2 => fxL h.view 4 ++ (fxL h.prod 4 ++ (fxL h.seq 4 ++ (fxL 0 1 ++ (fxL h.nrec 2 ++ (fxL p.length 4 ++ p)))))
  | 3 => fxL h.prod 4 ++ (fxL h.seq 4 ++ (fxL 0 1 ++ (fxL h.nrec 2 ++ (fxL p.length 4 ++ p))))
  | 4 => fxL h.seq 4 ++ (fxL 0 1 ++ (fxL h.nrec 2 ++ (fxL p.length 4 ++ p)))
  | 5 => fxL 0 1 ++ (fxL h.nrec 2 ++ (fxL p.length 4 ++ p))
  | 6 => fxL h.nrec 2 ++ (fxL p.length 4 ++ p)
  | 7 => fxL p.length 4 ++ p
  | _ => p
/-- The fields that were read so far. -/
def fcs (h : HN) (p : List UInt8) : Nat → Array Value
  | 0 => #[Value.int .i64 0, Value.int .i64 0, Value.int .i64 0, Value.int .i64 0, Value.int .i64 0, Value.int .i64 0, Value.int .i64 0, Value.int .i64 0]
  | 1 => #[Value.int .i64 ((h.base : Nat) : Int), Value.int .i64 0, Value.int .i64 0, Value.int .i64 0, Value.int .i64 0, Value.int .i64 0, Value.int .i64 0, Value.int .i64 0]
  | 2 => #[Value.int .i64 ((h.base : Nat) : Int), Value.int .i64 ((h.cnt : Nat) : Int), Value.int .i64 0, Value.int .i64 0, Value.int .i64 0, Value.int .i64 0, Value.int .i64 0, Value.int .i64 0]
  | 3 => #[Value.int .i64 ((h.base : Nat) : Int), Value.int .i64 ((h.cnt : Nat) : Int), Value.int .i64 ((h.view : Nat) : Int), Value.int .i64 0, Value.int .i64 0, Value.int .i64 0, Value.int .i64 0, Value.int .i64 0]
  | 4 => #[Value.int .i64 ((h.base : Nat) : Int), Value.int .i64 ((h.cnt : Nat) : Int), Value.int .i64 ((h.view : Nat) : Int), Value.int .i64 ((h.prod : Nat) : Int), Value.int .i64 0, Value.int .i64 0, Value.int .i64 0, Value.int .i64 0]
  | 5 => #[Value.int .i64 ((h.base : Nat) : Int), Value.int .i64 ((h.cnt : Nat) : Int), Value.int .i64 ((h.view : Nat) : Int), Value.int .i64 ((h.prod : Nat) : Int), Value.int .i64 ((h.seq : Nat) : Int), Value.int .i64 0, Value.int .i64 0, Value.int .i64 0]
  | 6 => #[Value.int .i64 ((h.base : Nat) : Int), Value.int .i64 ((h.cnt : Nat) : Int), Value.int .i64 ((h.view : Nat) : Int), Value.int .i64 ((h.prod : Nat) : Int), Value.int .i64 ((h.seq : Nat) : Int), Value.int .i64 ((0 : Nat) : Int), Value.int .i64 0, Value.int .i64 0]
  | 7 => #[Value.int .i64 ((h.base : Nat) : Int), Value.int .i64 ((h.cnt : Nat) : Int), Value.int .i64 ((h.view : Nat) : Int), Value.int .i64 ((h.prod : Nat) : Int), Value.int .i64 ((h.seq : Nat) : Int), Value.int .i64 ((0 : Nat) : Int), Value.int .i64 ((h.nrec : Nat) : Int), Value.int .i64 0]
  | _ => #[Value.int .i64 ((h.base : Nat) : Int), Value.int .i64 ((h.cnt : Nat) : Int), Value.int .i64 ((h.view : Nat) : Int), Value.int .i64 ((h.prod : Nat) : Int), Value.int .i64 ((h.seq : Nat) : Int), Value.int .i64 ((0 : Nat) : Int), Value.int .i64 ((h.nrec : Nat) : Int), Value.int .i64 ((p.length : Nat) : Int)]
theorem rest_step (h : HN) (p : List UInt8) (ok : h.OK) (hp : 29 + p.length ≤ 262144) (n k j : Nat) (hj : restL h p j = fxL n k ++ restL h p (j + 1)) (hk1 : 1 ≤ k) (hk : k ≤ 8) (hn : n < 2 ^ (8 * k)) (hn' : n ≤ 9223372036854775807) (W : World) :
    Calls Tryz.prog 92 #[.string (mk (restL h p j)), .int .i64 (k : Nat)] W fun e w' => e = .returned (.tuple #[.int .i64 (n : Nat), .int .i64 0]) ∧ w' = W := by
  rw [hj]
  have hf := fixN_fx n k (restL h p (j + 1)) hn
  have := fixed (mk (fxL n k ++ restL h p (j + 1))) k W hk1 hk (by rw [mk_size]; simp [fxL_length]) (by rw [hf]; omega)
  rw [hf] at this; exact this
theorem rest_drop (h : HN) (p : List UInt8) (n k j : Nat) (hj : restL h p j = fxL n k ++ restL h p (j + 1)) : (mk (restL h p j)).extract k (mk (restL h p j)).size = mk (restL h p (j + 1)) := by
  rw [extract_drop, hj, drop_fx]
/-- What the loop keeps. -/
structure HL (w wr : World) (h : HN) (p : List UInt8) (j b : Nat) : Prop where
  blk : wr.heap[b]? = some (.cells (fcs h p j) 148 (0, 0))
  res : wr.heap[w.heap.size]? = some (.cells #[.int .i64 0, .int .i64 0, .int .i64 0, .int .i64 0, .int .i64 0, .slice none 0 0, .int .i64 0, .int .i64 0, .int .i64 0] 96 (0, 0))
  bel : Below w.heap.size w wr
end Go.Proofs.YtcjlcieheepegaaGreatDoor
namespace Go.Proofs.YtcjlcieheepegaaGreatDoor
open Go.RowKit
set_option linter.unusedVariables false
set_option maxRecDepth 20000

/-- A head as a value. -/
def HN.hv (h : HN) (pl : Nat) : Value := .agg #[.int .i64 (h.base : Nat), .int .i64 (h.cnt : Nat), .int .i64 (h.view : Nat), .int .i64 (h.prod : Nat), .int .i64 (h.seq : Nat), .slice none 0 0, .int .i64 0, .int .i64 (h.nrec : Nat), .int .i64 (pl : Nat)]
theorem ix0 (W : World) : (Instr.index 148 (.agg #[.int .i64 8, .int .i64 2, .int .i64 4, .int .i64 4, .int .i64 4, .int .i64 1, .int .i64 2, .int .i64 4]) (.int .i64 0)).run Tryz.prog W = .ok (.int .i64 8) W := by
  simp [Instr.index, asIntOf, run_underlying Tryz.underlying148, go_sem]
theorem ix1 (W : World) : (Instr.index 148 (.agg #[.int .i64 8, .int .i64 2, .int .i64 4, .int .i64 4, .int .i64 4, .int .i64 1, .int .i64 2, .int .i64 4]) (.int .i64 1)).run Tryz.prog W = .ok (.int .i64 2) W := by
  simp [Instr.index, asIntOf, run_underlying Tryz.underlying148, go_sem]
theorem ix2 (W : World) : (Instr.index 148 (.agg #[.int .i64 8, .int .i64 2, .int .i64 4, .int .i64 4, .int .i64 4, .int .i64 1, .int .i64 2, .int .i64 4]) (.int .i64 2)).run Tryz.prog W = .ok (.int .i64 4) W := by
  simp [Instr.index, asIntOf, run_underlying Tryz.underlying148, go_sem]
theorem ix3 (W : World) : (Instr.index 148 (.agg #[.int .i64 8, .int .i64 2, .int .i64 4, .int .i64 4, .int .i64 4, .int .i64 1, .int .i64 2, .int .i64 4]) (.int .i64 3)).run Tryz.prog W = .ok (.int .i64 4) W := by
  simp [Instr.index, asIntOf, run_underlying Tryz.underlying148, go_sem]
theorem ix4 (W : World) : (Instr.index 148 (.agg #[.int .i64 8, .int .i64 2, .int .i64 4, .int .i64 4, .int .i64 4, .int .i64 1, .int .i64 2, .int .i64 4]) (.int .i64 4)).run Tryz.prog W = .ok (.int .i64 4) W := by
  simp [Instr.index, asIntOf, run_underlying Tryz.underlying148, go_sem]
theorem ix5 (W : World) : (Instr.index 148 (.agg #[.int .i64 8, .int .i64 2, .int .i64 4, .int .i64 4, .int .i64 4, .int .i64 1, .int .i64 2, .int .i64 4]) (.int .i64 5)).run Tryz.prog W = .ok (.int .i64 1) W := by
  simp [Instr.index, asIntOf, run_underlying Tryz.underlying148, go_sem]
theorem ix6 (W : World) : (Instr.index 148 (.agg #[.int .i64 8, .int .i64 2, .int .i64 4, .int .i64 4, .int .i64 4, .int .i64 1, .int .i64 2, .int .i64 4]) (.int .i64 6)).run Tryz.prog W = .ok (.int .i64 2) W := by
  simp [Instr.index, asIntOf, run_underlying Tryz.underlying148, go_sem]
theorem ix7 (W : World) : (Instr.index 148 (.agg #[.int .i64 8, .int .i64 2, .int .i64 4, .int .i64 4, .int .i64 4, .int .i64 1, .int .i64 2, .int .i64 4]) (.int .i64 7)).run Tryz.prog W = .ok (.int .i64 4) W := by
  simp [Instr.index, asIntOf, run_underlying Tryz.underlying148, go_sem]
theorem cells9 {w : World} {b : Nat} {t : TypeId} {a0 a1 a2 a3 a4 a5 a6 a7 a8 : Value} (h : w.heap[b]? = some (.cells #[a0, a1, a2, a3, a4, a5, a6, a7, a8] t (0, 0))) :
    w.cell? ⟨b, 0, none⟩ = some a0 ∧ w.cell? ⟨b, 1, none⟩ = some a1 ∧ w.cell? ⟨b, 2, none⟩ = some a2 ∧ w.cell? ⟨b, 3, none⟩ = some a3 ∧ w.cell? ⟨b, 4, none⟩ = some a4 ∧ w.cell? ⟨b, 5, none⟩ = some a5 ∧ w.cell? ⟨b, 6, none⟩ = some a6 ∧ w.cell? ⟨b, 7, none⟩ = some a7 ∧ w.cell? ⟨b, 8, none⟩ = some a8 := by
  refine ⟨?_, ?_, ?_, ?_, ?_, ?_, ?_, ?_, ?_⟩ <;> simp [World.cell?, h]
theorem frozen0 {w : World} {b : Nat} {t : TypeId} {cs : Array Value} (h : w.heap[b]? = some (.cells cs t (0, 0))) (i : Nat) : w.frozen? ⟨b, i, none⟩ = false := by simp [World.frozen?, h]
theorem block_set {w : World} {b i : Nat} {cs : Array Value} {t : TypeId} {u : Value} (h : w.heap[b]? = some (.cells cs t (0, 0))) : (w.setCell ⟨b, i, none⟩ u).heap[b]? = some (.cells (cs.setIfInBounds i u) t (0, 0)) := by
  have hlt := lt_of_block h
  have h' : w.heap[b] = .cells cs t (0, 0) := by simpa [Array.getElem?_eq_getElem hlt] using h
  show (w.heap.modify b _)[b]? = _
  rw [Array.getElem?_eq_getElem (by simpa using hlt), Array.getElem_modify_self, h']
  rfl
theorem below_set {B b i : Nat} (w : World) (u : Value) (hB : B ≤ b) : Below B w (w.setCell ⟨b, i, none⟩ u) :=
  ⟨rfl, rfl, rfl, by simp [World.setCell], fun k hk => Below.heap_setCell _ _ _ _ (by show k ≠ b; omega)⟩
theorem HL.step {w wr : World} {h : HN} {p : List UInt8} {j : Nat} {u : Value} (hl : HL w wr h p j (w.heap.size + 1)) (he : (fcs h p j).setIfInBounds j u = fcs h p (j + 1)) : HL w (wr.setCell ⟨w.heap.size + 1, j, none⟩ u) h p (j + 1) (w.heap.size + 1) :=
  ⟨by rw [block_set hl.blk, he], (Below.heap_setCell _ _ _ _ (by show w.heap.size ≠ w.heap.size + 1; omega)).trans hl.res, hl.bel.trans (below_set _ _ (by omega))⟩
set_option maxRecDepth 20000 in
set_option maxHeartbeats 4000000 in
theorem headOf_ok (h : HN) (ok : h.OK) (p : List UInt8) (w : World) (hT : TabF w) (hp : 29 + p.length ≤ 262144) :
    Calls Tryz.prog 73 #[.string (mk (sumL h p))] w fun e w' => e = .returned (.tuple #[h.hv p.length, .int .i64 0]) ∧ Below w.heap.size w w' := by
  obtain ⟨t00, t0, t1, t2, t3, t4, t5, t6, t7⟩ := hT
  have HT : Hid (TabF w) := ⟨t00, t0, t1, t2, t3, t4, t5, t6, t7⟩
  have hs0 : sumL h p = restL h p 0 := rfl
  rw [hs0]
  clear hs0
  have HN1 : Hid (∀ W, Calls Tryz.prog 94 #[h.bv (.slice none 0 0)] W fun e w' => e = .returned (.bool true) ∧ Below W.heap.size W w') := fun W => numbersMayBe_yes h ok none 0 0 W
  have HC : Hid (∀ W, Calls Tryz.prog 74 #[.int .i64 0] W fun e w' => e = .returned (.tuple #[cod0, .bool true]) ∧ Below W.heap.size W w') := codecOf_ok
  have HF0 : Hid (∀ W, Calls Tryz.prog 92 #[.string (mk (restL h p 0)), .int .i64 8] W fun e w' => e = .returned (.tuple #[.int .i64 ((h.base : Nat) : Int), .int .i64 0]) ∧ w' = W) := fun W => rest_step h p ok hp (h.base) 8 0 rfl (by omega) (by omega) (by have := ok.base; have := ok.cnt; have := ok.view; have := ok.prod; have := ok.seq; have := ok.nrec; omega) (by have := ok.base; have := ok.cnt; have := ok.view; have := ok.prod; have := ok.seq; have := ok.nrec; omega) W
  have HD0 : Hid ((mk (restL h p 0)).extract 8 (mk (restL h p 0)).size = mk (restL h p 1) ∧ 8 ≤ (mk (restL h p 0)).size) := ⟨rest_drop h p (h.base) 8 0 rfl, by rw [mk_size]; simp [restL, fxL_length]⟩
  have HF1 : Hid (∀ W, Calls Tryz.prog 92 #[.string (mk (restL h p 1)), .int .i64 2] W fun e w' => e = .returned (.tuple #[.int .i64 ((h.cnt : Nat) : Int), .int .i64 0]) ∧ w' = W) := fun W => rest_step h p ok hp (h.cnt) 2 1 rfl (by omega) (by omega) (by have := ok.base; have := ok.cnt; have := ok.view; have := ok.prod; have := ok.seq; have := ok.nrec; omega) (by have := ok.base; have := ok.cnt; have := ok.view; have := ok.prod; have := ok.seq; have := ok.nrec; omega) W
  have HD1 : Hid ((mk (restL h p 1)).extract 2 (mk (restL h p 1)).size = mk (restL h p 2) ∧ 2 ≤ (mk (restL h p 1)).size) := ⟨rest_drop h p (h.cnt) 2 1 rfl, by rw [mk_size]; simp [restL, fxL_length]⟩
  have HF2 : Hid (∀ W, Calls Tryz.prog 92 #[.string (mk (restL h p 2)), .int .i64 4] W fun e w' => e = .returned (.tuple #[.int .i64 ((h.view : Nat) : Int), .int .i64 0]) ∧ w' = W) := fun W => rest_step h p ok hp (h.view) 4 2 rfl (by omega) (by omega) (by have := ok.base; have := ok.cnt; have := ok.view; have := ok.prod; have := ok.seq; have := ok.nrec; omega) (by have := ok.base; have := ok.cnt; have := ok.view; have := ok.prod; have := ok.seq; have := ok.nrec; omega) W
  have HD2 : Hid ((mk (restL h p 2)).extract 4 (mk (restL h p 2)).size = mk (restL h p 3) ∧ 4 ≤ (mk (restL h p 2)).size) := ⟨rest_drop h p (h.view) 4 2 rfl, by rw [mk_size]; simp [restL, fxL_length]⟩
  have HF3 : Hid (∀ W, Calls Tryz.prog 92 #[.string (mk (restL h p 3)), .int .i64 4] W fun e w' => e = .returned (.tuple #[.int .i64 ((h.prod : Nat) : Int), .int .i64 0]) ∧ w' = W) := fun W => rest_step h p ok hp (h.prod) 4 3 rfl (by omega) (by omega) (by have := ok.base; have := ok.cnt; have := ok.view; have := ok.prod; have := ok.seq; have := ok.nrec; omega) (by have := ok.base; have := ok.cnt; have := ok.view; have := ok.prod; have := ok.seq; have := ok.nrec; omega) W
  have HD3 : Hid ((mk (restL h p 3)).extract 4 (mk (restL h p 3)).size = mk (restL h p 4) ∧ 4 ≤ (mk (restL h p 3)).size) := ⟨rest_drop h p (h.prod) 4 3 rfl, by rw [mk_size]; simp [restL, fxL_length]⟩
  have HF4 : Hid (∀ W, Calls Tryz.prog 92 #[.string (mk (restL h p 4)), .int .i64 4] W fun e w' => e = .returned (.tuple #[.int .i64 ((h.seq : Nat) : Int), .int .i64 0]) ∧ w' = W) := fun W => rest_step h p ok hp (h.seq) 4 4 rfl (by omega) (by omega) (by have := ok.base; have := ok.cnt; have := ok.view; have := ok.prod; have := ok.seq; have := ok.nrec; omega) (by have := ok.base; have := ok.cnt; have := ok.view; have := ok.prod; have := ok.seq; have := ok.nrec; omega) W
  have HD4 : Hid ((mk (restL h p 4)).extract 4 (mk (restL h p 4)).size = mk (restL h p 5) ∧ 4 ≤ (mk (restL h p 4)).size) := ⟨rest_drop h p (h.seq) 4 4 rfl, by rw [mk_size]; simp [restL, fxL_length]⟩
  have HF5 : Hid (∀ W, Calls Tryz.prog 92 #[.string (mk (restL h p 5)), .int .i64 1] W fun e w' => e = .returned (.tuple #[.int .i64 ((0 : Nat) : Int), .int .i64 0]) ∧ w' = W) := fun W => rest_step h p ok hp (0) 1 5 rfl (by omega) (by omega) (by have := ok.base; have := ok.cnt; have := ok.view; have := ok.prod; have := ok.seq; have := ok.nrec; omega) (by have := ok.base; have := ok.cnt; have := ok.view; have := ok.prod; have := ok.seq; have := ok.nrec; omega) W
  have HD5 : Hid ((mk (restL h p 5)).extract 1 (mk (restL h p 5)).size = mk (restL h p 6) ∧ 1 ≤ (mk (restL h p 5)).size) := ⟨rest_drop h p (0) 1 5 rfl, by rw [mk_size]; simp [restL, fxL_length]⟩
  have HF6 : Hid (∀ W, Calls Tryz.prog 92 #[.string (mk (restL h p 6)), .int .i64 2] W fun e w' => e = .returned (.tuple #[.int .i64 ((h.nrec : Nat) : Int), .int .i64 0]) ∧ w' = W) := fun W => rest_step h p ok hp (h.nrec) 2 6 rfl (by omega) (by omega) (by have := ok.base; have := ok.cnt; have := ok.view; have := ok.prod; have := ok.seq; have := ok.nrec; omega) (by have := ok.base; have := ok.cnt; have := ok.view; have := ok.prod; have := ok.seq; have := ok.nrec; omega) W
  have HD6 : Hid ((mk (restL h p 6)).extract 2 (mk (restL h p 6)).size = mk (restL h p 7) ∧ 2 ≤ (mk (restL h p 6)).size) := ⟨rest_drop h p (h.nrec) 2 6 rfl, by rw [mk_size]; simp [restL, fxL_length]⟩
  have HF7 : Hid (∀ W, Calls Tryz.prog 92 #[.string (mk (restL h p 7)), .int .i64 4] W fun e w' => e = .returned (.tuple #[.int .i64 ((p.length : Nat) : Int), .int .i64 0]) ∧ w' = W) := fun W => rest_step h p ok hp (p.length) 4 7 rfl (by omega) (by omega) (by have := ok.base; have := ok.cnt; have := ok.view; have := ok.prod; have := ok.seq; have := ok.nrec; omega) (by have := ok.base; have := ok.cnt; have := ok.view; have := ok.prod; have := ok.seq; have := ok.nrec; omega) W
  have HD7 : Hid ((mk (restL h p 7)).extract 4 (mk (restL h p 7)).size = mk (restL h p 8) ∧ 4 ≤ (mk (restL h p 7)).size) := ⟨rest_drop h p (p.length) 4 7 rfl, by rw [mk_size]; simp [restL, fxL_length]⟩
  unfold HN.hv
  unfold HN.bv at HN1
  unfold cod0 at HC
  have HS : Hid (HL w ((w.alloc (.cells #[.int .i64 0, .int .i64 0, .int .i64 0, .int .i64 0, .int .i64 0, .slice none 0 0, .int .i64 0, .int .i64 0, .int .i64 0] 96)).alloc (.cells #[.int .i64 0, .int .i64 0, .int .i64 0, .int .i64 0, .int .i64 0, .int .i64 0, .int .i64 0, .int .i64 0] 148)) h p 0 (w.heap.size + 1)) :=
    ⟨by rw [show w.heap.size + 1 = (w.alloc (.cells #[.int .i64 0, .int .i64 0, .int .i64 0, .int .i64 0, .int .i64 0, .slice none 0 0, .int .i64 0, .int .i64 0, .int .i64 0] 96)).heap.size by simp]; exact heap_alloc_new _ _, (((Below.refl _ _).alloc (Nat.le_refl _) _).block _ (by simp)).trans (heap_alloc_new _ _), ((Below.refl _ _).alloc (Nat.le_refl _) _).alloc (by simp) _⟩
  go_enter Tryz.func73, Tryz.ntmps73
  go_wp2
  go_loopw [0, 13] (fun s i wr => ∃ j : Nat, j ≤ 8 ∧ i = .int .i64 (j : Nat) ∧ s = .string (mk (restL h p j)) ∧ HL w wr h p j (w.heap.size + 1)) (fun _ i _ => 8 - (intOf i).toNat)
  case atStart => exact ⟨0, by omega, rfl, rfl, HS.out⟩
  case round =>
    obtain ⟨j, hj, rfl, rfl, hr⟩ := hrel
    have HR : Hid (HL w wr h p j (w.heap.size + 1)) := hr
    obtain ⟨B1, hB1⟩ : ∃ b, w.heap.size + 1 = b := ⟨_, rfl⟩
    rw [hB1]
    rcases (show j = 0 ∨ j = 1 ∨ j = 2 ∨ j = 3 ∨ j = 4 ∨ j = 5 ∨ j = 6 ∨ j = 7 ∨ j = 8 by omega) with rfl | rfl | rfl | rfl | rfl | rfl | rfl | rfl | rfl
    · as_aux_lemma =>
        have hb : wr.heap[w.heap.size + 1]? = some (.cells (fcs h p 0) 148 (0, 0)) := hr.blk
        have hc : wr.cell? ⟨B1, 0, none⟩ = some (.int .i64 0) := by rw [← hB1]; simp [World.cell?, hb, fcs]
        have hf : wr.frozen? ⟨B1, 0, none⟩ = false := by rw [← hB1]; simp [World.frozen?, hb]
        clear hb hr
        obtain ⟨hx, hk⟩ := HD0.out
        have hix := ix0
        have HX : Hid _ := hx
        clear hx
        have hk' : (8 : Int) ≤ ((mk (restL h p 0)).size : Int) := by omega
        generalize mk (restL h p 0) = s at hk hk' HF0 HX
        go_wp2_with fail
        refine (HF0.out _).mono ?_
        rintro e W ⟨rfl, hW⟩
        obtain rfl := hW.symm
        clear hW
        go_wp2
        go_roundw
        case rel => exact ⟨1, by omega, rfl, by rw [← HX.out], by rw [← hB1]; exact HR.out.step rfl⟩
        case measure => simp [intOf]
    · as_aux_lemma =>
        have hb : wr.heap[w.heap.size + 1]? = some (.cells (fcs h p 1) 148 (0, 0)) := hr.blk
        have hc : wr.cell? ⟨B1, 1, none⟩ = some (.int .i64 0) := by rw [← hB1]; simp [World.cell?, hb, fcs]
        have hf : wr.frozen? ⟨B1, 1, none⟩ = false := by rw [← hB1]; simp [World.frozen?, hb]
        clear hb hr
        obtain ⟨hx, hk⟩ := HD1.out
        have hix := ix1
        have HX : Hid _ := hx
        clear hx
        have hk' : (2 : Int) ≤ ((mk (restL h p 1)).size : Int) := by omega
        generalize mk (restL h p 1) = s at hk hk' HF1 HX
        go_wp2_with fail
        refine (HF1.out _).mono ?_
        rintro e W ⟨rfl, hW⟩
        obtain rfl := hW.symm
        clear hW
        go_wp2
        go_roundw
        case rel => exact ⟨2, by omega, rfl, by rw [← HX.out], by rw [← hB1]; exact HR.out.step rfl⟩
        case measure => simp [intOf]
    · as_aux_lemma =>
        have hb : wr.heap[w.heap.size + 1]? = some (.cells (fcs h p 2) 148 (0, 0)) := hr.blk
        have hc : wr.cell? ⟨B1, 2, none⟩ = some (.int .i64 0) := by rw [← hB1]; simp [World.cell?, hb, fcs]
        have hf : wr.frozen? ⟨B1, 2, none⟩ = false := by rw [← hB1]; simp [World.frozen?, hb]
        clear hb hr
        obtain ⟨hx, hk⟩ := HD2.out
        have hix := ix2
        have HX : Hid _ := hx
        clear hx
        have hk' : (4 : Int) ≤ ((mk (restL h p 2)).size : Int) := by omega
        generalize mk (restL h p 2) = s at hk hk' HF2 HX
        go_wp2_with fail
        refine (HF2.out _).mono ?_
        rintro e W ⟨rfl, hW⟩
        obtain rfl := hW.symm
        clear hW
        go_wp2
        go_roundw
        case rel => exact ⟨3, by omega, rfl, by rw [← HX.out], by rw [← hB1]; exact HR.out.step rfl⟩
        case measure => simp [intOf]
    · as_aux_lemma =>
        have hb : wr.heap[w.heap.size + 1]? = some (.cells (fcs h p 3) 148 (0, 0)) := hr.blk
        have hc : wr.cell? ⟨B1, 3, none⟩ = some (.int .i64 0) := by rw [← hB1]; simp [World.cell?, hb, fcs]
        have hf : wr.frozen? ⟨B1, 3, none⟩ = false := by rw [← hB1]; simp [World.frozen?, hb]
        clear hb hr
        obtain ⟨hx, hk⟩ := HD3.out
        have hix := ix3
        have HX : Hid _ := hx
        clear hx
        have hk' : (4 : Int) ≤ ((mk (restL h p 3)).size : Int) := by omega
        generalize mk (restL h p 3) = s at hk hk' HF3 HX
        go_wp2_with fail
        refine (HF3.out _).mono ?_
        rintro e W ⟨rfl, hW⟩
        obtain rfl := hW.symm
        clear hW
        go_wp2
        go_roundw
        case rel => exact ⟨4, by omega, rfl, by rw [← HX.out], by rw [← hB1]; exact HR.out.step rfl⟩
        case measure => simp [intOf]
    · as_aux_lemma =>
        have hb : wr.heap[w.heap.size + 1]? = some (.cells (fcs h p 4) 148 (0, 0)) := hr.blk
        have hc : wr.cell? ⟨B1, 4, none⟩ = some (.int .i64 0) := by rw [← hB1]; simp [World.cell?, hb, fcs]
        have hf : wr.frozen? ⟨B1, 4, none⟩ = false := by rw [← hB1]; simp [World.frozen?, hb]
        clear hb hr
        obtain ⟨hx, hk⟩ := HD4.out
        have hix := ix4
        have HX : Hid _ := hx
        clear hx
        have hk' : (4 : Int) ≤ ((mk (restL h p 4)).size : Int) := by omega
        generalize mk (restL h p 4) = s at hk hk' HF4 HX
        go_wp2_with fail
        refine (HF4.out _).mono ?_
        rintro e W ⟨rfl, hW⟩
        obtain rfl := hW.symm
        clear hW
        go_wp2
        go_roundw
        case rel => exact ⟨5, by omega, rfl, by rw [← HX.out], by rw [← hB1]; exact HR.out.step rfl⟩
        case measure => simp [intOf]
    · as_aux_lemma =>
        have hb : wr.heap[w.heap.size + 1]? = some (.cells (fcs h p 5) 148 (0, 0)) := hr.blk
        have hc : wr.cell? ⟨B1, 5, none⟩ = some (.int .i64 0) := by rw [← hB1]; simp [World.cell?, hb, fcs]
        have hf : wr.frozen? ⟨B1, 5, none⟩ = false := by rw [← hB1]; simp [World.frozen?, hb]
        clear hb hr
        obtain ⟨hx, hk⟩ := HD5.out
        have hix := ix5
        have HX : Hid _ := hx
        clear hx
        have hk' : (1 : Int) ≤ ((mk (restL h p 5)).size : Int) := by omega
        generalize mk (restL h p 5) = s at hk hk' HF5 HX
        go_wp2_with fail
        refine (HF5.out _).mono ?_
        rintro e W ⟨rfl, hW⟩
        obtain rfl := hW.symm
        clear hW
        go_wp2
        go_roundw
        case rel => exact ⟨6, by omega, rfl, by rw [← HX.out], by rw [← hB1]; exact HR.out.step rfl⟩
        case measure => simp [intOf]
    · as_aux_lemma =>
        have hb : wr.heap[w.heap.size + 1]? = some (.cells (fcs h p 6) 148 (0, 0)) := hr.blk
        have hc : wr.cell? ⟨B1, 6, none⟩ = some (.int .i64 0) := by rw [← hB1]; simp [World.cell?, hb, fcs]
        have hf : wr.frozen? ⟨B1, 6, none⟩ = false := by rw [← hB1]; simp [World.frozen?, hb]
        clear hb hr
        obtain ⟨hx, hk⟩ := HD6.out
        have hix := ix6
        have HX : Hid _ := hx
        clear hx
        have hk' : (2 : Int) ≤ ((mk (restL h p 6)).size : Int) := by omega
        generalize mk (restL h p 6) = s at hk hk' HF6 HX
        go_wp2_with fail
        refine (HF6.out _).mono ?_
        rintro e W ⟨rfl, hW⟩
        obtain rfl := hW.symm
        clear hW
        go_wp2
        go_roundw
        case rel => exact ⟨7, by omega, rfl, by rw [← HX.out], by rw [← hB1]; exact HR.out.step rfl⟩
        case measure => simp [intOf]
    · as_aux_lemma =>
        have hb : wr.heap[w.heap.size + 1]? = some (.cells (fcs h p 7) 148 (0, 0)) := hr.blk
        have hc : wr.cell? ⟨B1, 7, none⟩ = some (.int .i64 0) := by rw [← hB1]; simp [World.cell?, hb, fcs]
        have hf : wr.frozen? ⟨B1, 7, none⟩ = false := by rw [← hB1]; simp [World.frozen?, hb]
        clear hb hr
        obtain ⟨hx, hk⟩ := HD7.out
        have hix := ix7
        have HX : Hid _ := hx
        clear hx
        have hk' : (4 : Int) ≤ ((mk (restL h p 7)).size : Int) := by omega
        generalize mk (restL h p 7) = s at hk hk' HF7 HX
        go_wp2_with fail
        refine (HF7.out _).mono ?_
        rintro e W ⟨rfl, hW⟩
        obtain rfl := hW.symm
        clear hW
        go_wp2
        go_roundw
        case rel => exact ⟨8, by omega, rfl, by rw [← HX.out], by rw [← hB1]; exact HR.out.step rfl⟩
        case measure => simp [intOf]
    · have hb : wr.heap[w.heap.size + 1]? = some (.cells (fcs h p 8) 148 (0, 0)) := hr.blk
      have hres := hr.res
      have c0 : wr.cell? ⟨B1, 0, none⟩ = some (.int .i64 ((h.base : Nat) : Int)) := by rw [← hB1]; simp [World.cell?, hb, fcs]
      have c1 : wr.cell? ⟨B1, 1, none⟩ = some (.int .i64 ((h.cnt : Nat) : Int)) := by rw [← hB1]; simp [World.cell?, hb, fcs]
      have c2 : wr.cell? ⟨B1, 2, none⟩ = some (.int .i64 ((h.view : Nat) : Int)) := by rw [← hB1]; simp [World.cell?, hb, fcs]
      have c3 : wr.cell? ⟨B1, 3, none⟩ = some (.int .i64 ((h.prod : Nat) : Int)) := by rw [← hB1]; simp [World.cell?, hb, fcs]
      have c4 : wr.cell? ⟨B1, 4, none⟩ = some (.int .i64 ((h.seq : Nat) : Int)) := by rw [← hB1]; simp [World.cell?, hb, fcs]
      have c5 : wr.cell? ⟨B1, 5, none⟩ = some (.int .i64 ((0 : Nat) : Int)) := by rw [← hB1]; simp [World.cell?, hb, fcs]
      have c6 : wr.cell? ⟨B1, 6, none⟩ = some (.int .i64 ((h.nrec : Nat) : Int)) := by rw [← hB1]; simp [World.cell?, hb, fcs]
      have c7 : wr.cell? ⟨B1, 7, none⟩ = some (.int .i64 ((p.length : Nat) : Int)) := by rw [← hB1]; simp [World.cell?, hb, fcs]
      clear hb hres hr
      have HAb : Hid ((wr.alloc (.cells #[.int .i64 (h.base : Nat), .int .i64 (h.cnt : Nat), .int .i64 (h.view : Nat), .int .i64 (h.prod : Nat), .int .i64 (h.seq : Nat), .slice none 0 0, .int .i64 ((0 : Nat) : Int), .int .i64 (h.nrec : Nat), .int .i64 (p.length : Nat)] 96)).heap[wr.heap.size]? = some (.cells #[.int .i64 (h.base : Nat), .int .i64 (h.cnt : Nat), .int .i64 (h.view : Nat), .int .i64 (h.prod : Nat), .int .i64 (h.seq : Nat), .slice none 0 0, .int .i64 ((0 : Nat) : Int), .int .i64 (h.nrec : Nat), .int .i64 (p.length : Nat)] 96 (0, 0))) := heap_alloc_new _ _
      have HAr : Hid ((wr.alloc (.cells #[.int .i64 (h.base : Nat), .int .i64 (h.cnt : Nat), .int .i64 (h.view : Nat), .int .i64 (h.prod : Nat), .int .i64 (h.seq : Nat), .slice none 0 0, .int .i64 ((0 : Nat) : Int), .int .i64 (h.nrec : Nat), .int .i64 (p.length : Nat)] 96)).heap[w.heap.size]? = some (.cells #[.int .i64 0, .int .i64 0, .int .i64 0, .int .i64 0, .int .i64 0, .slice none 0 0, .int .i64 0, .int .i64 0, .int .i64 0] 96 (0, 0))) := (((Below.refl _ _).alloc (Nat.le_refl _) _).block _ (lt_of_block HR.out.res)).trans HR.out.res
      have HAw : Hid (Below w.heap.size w (wr.alloc (.cells #[.int .i64 (h.base : Nat), .int .i64 (h.cnt : Nat), .int .i64 (h.view : Nat), .int .i64 (h.prod : Nat), .int .i64 (h.seq : Nat), .slice none 0 0, .int .i64 ((0 : Nat) : Int), .int .i64 (h.nrec : Nat), .int .i64 (p.length : Nat)] 96))) := HR.out.bel.trans (((Below.refl _ _).alloc (Nat.le_refl _) _).mono HR.out.bel.size)
      have hlt9 : wr.heap.size < (wr.alloc (.cells #[.int .i64 (h.base : Nat), .int .i64 (h.cnt : Nat), .int .i64 (h.view : Nat), .int .i64 (h.prod : Nat), .int .i64 (h.seq : Nat), .slice none 0 0, .int .i64 ((0 : Nat) : Int), .int .i64 (h.nrec : Nat), .int .i64 (p.length : Nat)] 96)).heap.size := by simp
      obtain ⟨b9, hb9⟩ : ∃ b, wr.heap.size = b := ⟨_, rfl⟩
      rw [hb9] at HAb hlt9
      have hltr := lt_of_block HAr.out
      go_wp2_with fail
      generalize hwA : wr.alloc (.cells #[.int .i64 (h.base : Nat), .int .i64 (h.cnt : Nat), .int .i64 (h.view : Nat), .int .i64 (h.prod : Nat), .int .i64 (h.seq : Nat), .slice none 0 0, .int .i64 ((0 : Nat) : Int), .int .i64 (h.nrec : Nat), .int .i64 (p.length : Nat)] 96) = wA at HAb HAr HAw hlt9 hltr
      clear hwA
      refine (HC.out _).mono ?_
      rintro e w1 ⟨rfl, hb1⟩
      have hb1' : Below wA.heap.size wA (w1.alloc (.cells #[.func (.func 95) #[] #[], .func (.func 96) #[] #[]] 126)) := hb1.alloc hb1.size _
      have H1b : Hid ((w1.alloc (.cells #[.func (.func 95) #[] #[], .func (.func 96) #[] #[]] 126)).heap[b9]? = some (.cells #[.int .i64 (h.base : Nat), .int .i64 (h.cnt : Nat), .int .i64 (h.view : Nat), .int .i64 (h.prod : Nat), .int .i64 (h.seq : Nat), .slice none 0 0, .int .i64 ((0 : Nat) : Int), .int .i64 (h.nrec : Nat), .int .i64 (p.length : Nat)] 96 (0, 0))) := (hb1'.block _ hlt9).trans HAb.out
      have H1r : Hid ((w1.alloc (.cells #[.func (.func 95) #[] #[], .func (.func 96) #[] #[]] 126)).heap[w.heap.size]? = some (.cells #[.int .i64 0, .int .i64 0, .int .i64 0, .int .i64 0, .int .i64 0, .slice none 0 0, .int .i64 0, .int .i64 0, .int .i64 0] 96 (0, 0))) := (hb1'.block _ hltr).trans HAr.out
      have H1w : Hid (Below w.heap.size w (w1.alloc (.cells #[.func (.func 95) #[] #[], .func (.func 96) #[] #[]] 126))) := HAw.out.trans (hb1'.mono HAw.out.size)
      clear hb1 hb1' HAb HAr HAw hlt9 hltr c0 c1 c2 c3 c4 c5 c6 c7 t00 t0 t1 t2 t3 t4 t5 t6 t7
      go_upto_region 13 with fail
      generalize hwA : w1.alloc (.cells #[.func (.func 95) #[] #[], .func (.func 96) #[] #[]] 126) = wB at H1b H1r H1w
      clear hwA
      obtain ⟨d0, d1, d2, d3, d4, d5, d6, d7, d8⟩ := cells9 H1b.out
      have hlt9 := lt_of_block H1b.out
      have hltr := lt_of_block H1r.out
      go_wp2_with fail
      refine (HN1.out _).mono ?_
      rintro e w2 ⟨rfl, hb2⟩
      have H2b : Hid (w2.heap[b9]? = some (.cells #[.int .i64 (h.base : Nat), .int .i64 (h.cnt : Nat), .int .i64 (h.view : Nat), .int .i64 (h.prod : Nat), .int .i64 (h.seq : Nat), .slice none 0 0, .int .i64 ((0 : Nat) : Int), .int .i64 (h.nrec : Nat), .int .i64 (p.length : Nat)] 96 (0, 0))) := (hb2.block _ hlt9).trans H1b.out
      have H2r : Hid (w2.heap[w.heap.size]? = some (.cells #[.int .i64 0, .int .i64 0, .int .i64 0, .int .i64 0, .int .i64 0, .slice none 0 0, .int .i64 0, .int .i64 0, .int .i64 0] 96 (0, 0))) := (hb2.block _ hltr).trans H1r.out
      have H2w : Hid (Below w.heap.size w w2) := H1w.out.trans (hb2.mono H1w.out.size)
      clear hb2 d0 d1 d2 d3 d4 d5 d6 d7 d8
      obtain ⟨d0, d1, d2, d3, d4, d5, d6, d7, d8⟩ := cells9 H2b.out
      obtain ⟨r0, r1, r2, r3, r4, r5, r6, r7, r8⟩ := cells9 H2r.out
      have hfr := frozen0 H2r.out
      go_wp2
      refine bodyPost_ret (v := ?v) ?c1 rfl ?c2
      case c1 =>
        rw [results_cell_tmp rfl]
        go_simp
        exact rfl
      case c2 =>
        refine ⟨rfl, ?_⟩
        iterate 9 refine Below.trans ?_ (below_set _ _ (Nat.le_refl _))
        exact H2w.out
end Go.Proofs.YtcjlcieheepegaaGreatDoor
namespace Go.Proofs.YtcjlcieheepegaaGreatDoor
open Go.RowKit
set_option linter.unusedVariables false
set_option maxRecDepth 20000

theorem below_drew1 (B : Nat) (w : World) : Below B w w.drew := ⟨rfl, rfl, rfl, Nat.le_refl _, fun _ _ => rfl⟩
theorem below_drew (B : Nat) (w : World) (k : Nat) : Below B w (w.drewN k) := ⟨rfl, rfl, rfl, Nat.le_refl _, fun _ _ => rfl⟩
/-- A head's nine cells. -/
def HN.cs (h : HN) (pl : Nat) : Array Value := #[.int .i64 (h.base : Nat), .int .i64 (h.cnt : Nat), .int .i64 (h.view : Nat), .int .i64 (h.prod : Nat), .int .i64 (h.seq : Nat), .slice none 0 0, .int .i64 0, .int .i64 (h.nrec : Nat), .int .i64 (pl : Nat)]
def zh9 : Array Value := #[.int .i64 0, .int .i64 0, .int .i64 0, .int .i64 0, .int .i64 0, .slice none 0 0, .int .i64 0, .int .i64 0, .int .i64 0]
set_option maxRecDepth 20000 in
set_option maxHeartbeats 1000000 in
theorem open_ok (h : HN) (ok : h.OK) (p t : List UInt8) (w : World) (hT : TabF w) (hp : 29 + p.length ≤ 262144) (ht : t.length ≤ 140737488000000) :
    Calls Tryz.prog 49 #[.string (mk (batL h p ++ t))] w fun e w' => e = .returned (.tuple #[h.hv p.length, .string (mk p), .int .i64 0]) ∧ Below w.heap.size w w' := by
  have HS : Hid (∀ W, Calls Tryz.prog 72 #[.string (mk (batL h p ++ t))] W fun e w' => e = .returned (.tuple #[.string (mk (sumL h p)), .int .i64 0]) ∧ Below W.heap.size W w') := fun W => summedOf_ok h p t W hp ht
  have HH : Hid (∀ W, TabF W → Calls Tryz.prog 73 #[.string (mk (sumL h p))] W fun e w' => e = .returned (.tuple #[h.hv p.length, .int .i64 0]) ∧ Below W.heap.size W w') := fun W hW => headOf_ok h ok p W hW hp
  have HX : Hid ((mk (sumL h p)).extract 29 (mk (sumL h p)).size = mk p) := by
    have e : sumL h p = (fxL h.base 8 ++ fxL h.cnt 2 ++ fxL h.view 4 ++ fxL h.prod 4 ++ fxL h.seq 4 ++ fxL 0 1 ++ fxL h.nrec 2 ++ fxL p.length 4) ++ p := by simp [sumL]
    have el : (fxL h.base 8 ++ fxL h.cnt 2 ++ fxL h.view 4 ++ fxL h.prod 4 ++ fxL h.seq 4 ++ fxL 0 1 ++ fxL h.nrec 2 ++ fxL p.length 4).length = 29 := by simp [fxL_length]
    show (mk (sumL h p)).extract 29 (mk (sumL h p)).size = mk p
    rw [extract_drop, e, ← el, List.drop_left]
  have hsz : 29 ≤ (mk (sumL h p)).size := by rw [mk_size, sumL_length]; omega
  have hsz' : (29 : Int) ≤ ((mk (sumL h p)).size : Int) := by omega
  unfold HN.hv at HH ⊢
  have HA : Hid (Below w.heap.size w (w.alloc (.cells #[.int .i64 0, .int .i64 0, .int .i64 0, .int .i64 0, .int .i64 0, .slice none 0 0, .int .i64 0, .int .i64 0, .int .i64 0] 96))) := (Below.refl _ _).alloc (Nat.le_refl _) _
  have HR : Hid ((w.alloc (.cells #[.int .i64 0, .int .i64 0, .int .i64 0, .int .i64 0, .int .i64 0, .slice none 0 0, .int .i64 0, .int .i64 0, .int .i64 0] 96)).heap[w.heap.size]? = some (.cells #[.int .i64 0, .int .i64 0, .int .i64 0, .int .i64 0, .int .i64 0, .slice none 0 0, .int .i64 0, .int .i64 0, .int .i64 0] 96 (0, 0))) := heap_alloc_new _ _
  have HT : Hid (TabF (w.alloc (.cells #[.int .i64 0, .int .i64 0, .int .i64 0, .int .i64 0, .int .i64 0, .slice none 0 0, .int .i64 0, .int .i64 0, .int .i64 0] 96))) := hT.new HA.out
  clear hT
  generalize mk (batL h p ++ t) = s at HS ⊢
  generalize mk (sumL h p) = S at HS HH HX hsz hsz'
  go_enter Tryz.func49, Tryz.ntmps49
  go_upto_region 1 with fail
  generalize hwA : w.alloc (.cells #[.int .i64 0, .int .i64 0, .int .i64 0, .int .i64 0, .int .i64 0, .slice none 0 0, .int .i64 0, .int .i64 0, .int .i64 0] 96) = wA at HA HR HT
  clear hwA
  go_wp2_with fail
  refine (HS.out _).mono ?_
  rintro e w1 ⟨rfl, hb1⟩
  have H1T : Hid (TabF w1) := HT.out.new hb1
  have H1r : Hid (w1.heap[w.heap.size]? = some (.cells #[.int .i64 0, .int .i64 0, .int .i64 0, .int .i64 0, .int .i64 0, .slice none 0 0, .int .i64 0, .int .i64 0, .int .i64 0] 96 (0, 0))) := (hb1.block _ (lt_of_block HR.out)).trans HR.out
  have H1w : Hid (Below w.heap.size w w1) := HA.out.trans (hb1.mono HA.out.size)
  clear hb1 HA HR HT
  go_wp2_with fail
  refine (HH.out _ H1T.out).mono ?_
  rintro e w2 ⟨rfl, hb2⟩
  have hb2' : Below w1.heap.size w1 (w2.alloc (.cells #[.int .i64 (h.base : Nat), .int .i64 (h.cnt : Nat), .int .i64 (h.view : Nat), .int .i64 (h.prod : Nat), .int .i64 (h.seq : Nat), .slice none 0 0, .int .i64 0, .int .i64 (h.nrec : Nat), .int .i64 (p.length : Nat)] 96)) := hb2.alloc hb2.size _
  have H2r : Hid ((w2.alloc (.cells #[.int .i64 (h.base : Nat), .int .i64 (h.cnt : Nat), .int .i64 (h.view : Nat), .int .i64 (h.prod : Nat), .int .i64 (h.seq : Nat), .slice none 0 0, .int .i64 0, .int .i64 (h.nrec : Nat), .int .i64 (p.length : Nat)] 96)).heap[w.heap.size]? = some (.cells #[.int .i64 0, .int .i64 0, .int .i64 0, .int .i64 0, .int .i64 0, .slice none 0 0, .int .i64 0, .int .i64 0, .int .i64 0] 96 (0, 0))) := (hb2'.block _ (lt_of_block H1r.out)).trans H1r.out
  have H2w : Hid (Below w.heap.size w (w2.alloc (.cells #[.int .i64 (h.base : Nat), .int .i64 (h.cnt : Nat), .int .i64 (h.view : Nat), .int .i64 (h.prod : Nat), .int .i64 (h.seq : Nat), .slice none 0 0, .int .i64 0, .int .i64 (h.nrec : Nat), .int .i64 (p.length : Nat)] 96))) := H1w.out.trans (hb2'.mono H1w.out.size)
  have H2b : Hid ((w2.alloc (.cells #[.int .i64 (h.base : Nat), .int .i64 (h.cnt : Nat), .int .i64 (h.view : Nat), .int .i64 (h.prod : Nat), .int .i64 (h.seq : Nat), .slice none 0 0, .int .i64 0, .int .i64 (h.nrec : Nat), .int .i64 (p.length : Nat)] 96)).heap[w2.heap.size]? = some (.cells #[.int .i64 (h.base : Nat), .int .i64 (h.cnt : Nat), .int .i64 (h.view : Nat), .int .i64 (h.prod : Nat), .int .i64 (h.seq : Nat), .slice none 0 0, .int .i64 0, .int .i64 (h.nrec : Nat), .int .i64 (p.length : Nat)] 96 (0, 0))) := heap_alloc_new _ _
  obtain ⟨b9, hb9⟩ : ∃ b, w2.heap.size = b := ⟨_, rfl⟩
  rw [hb9] at H2b
  clear hb2 hb2'
  go_upto_region 7 with fail
  generalize hwB : w2.alloc (.cells #[.int .i64 (h.base : Nat), .int .i64 (h.cnt : Nat), .int .i64 (h.view : Nat), .int .i64 (h.prod : Nat), .int .i64 (h.seq : Nat), .slice none 0 0, .int .i64 0, .int .i64 (h.nrec : Nat), .int .i64 (p.length : Nat)] 96) = wB at H2r H2w H2b
  clear hwB
  obtain ⟨d0, d1, d2, d3, d4, d5, d6, d7, d8⟩ := cells9 H2b.out
  obtain ⟨r0, r1, r2, r3, r4, r5, r6, r7, r8⟩ := cells9 H2r.out
  have hfr := frozen0 H2r.out
  go_wp2
  go_region
  go_wp2
  refine bodyPost_ret (v := ?v) ?c1 rfl ?c2
  case c1 =>
    rw [results_cell_tmp2 rfl]
    go_simp
    exact rfl
  case c2 =>
    refine ⟨?_, ?_⟩
    · rw [HX.out]
    refine Below.trans ?_ (below_drew1 _ _)
    iterate 9 refine Below.trans ?_ (below_set _ _ (Nat.le_refl _))
    exact H2w.out
theorem sizeOf_ok (p : List UInt8) (w : World) (hp : p.length ≤ 262144) : Calls Tryz.prog 52 #[.string (mk p)] w fun e w' => e = .returned (.int .i64 ((39 + p.length : Nat) : Int)) ∧ w' = w := by
  have hz := mk_size p
  generalize mk p = s at hz
  have hz' : (s.size : Int) = (p.length : Int) := by omega
  go_enter Tryz.func52, Tryz.ntmps52
  go_wp2
  go_ret
  refine ⟨?_, rfl⟩
  first | rfl | (congr 2; omega) | (congr 3; omega) | skip
end Go.Proofs.YtcjlcieheepegaaGreatDoor
namespace Go.Proofs.YtcjlcieheepegaaGreatDoor
open Go.RowKit
set_option linter.unusedVariables false
set_option maxRecDepth 20000

/-- Records whose offsets their batch takes. -/
def Within (h : HN) (L : List Rec) : Prop := ∀ r ∈ L, (h.base : Int) ≤ r.off ∧ r.off ≤ (h.base : Int) + (h.cnt : Int) - 1
/-- What a round keeps. -/
structure RW (w wr : World) (h : HN) (a : Option Addr) (n cap : Nat) (L M : List Rec) : Prop where
  blk : wr.heap[w.heap.size]? = some (.cells #[.int .i64 (h.base : Nat), .int .i64 (h.cnt : Nat), .int .i64 (h.view : Nat), .int .i64 (h.prod : Nat), .int .i64 (h.seq : Nat), .slice a n cap] 46 (0, 0))
  bel : Below w.heap.size w wr
  pre : ∃ T, L = M ++ T
theorem cells6 {w : World} {b : Nat} {t : TypeId} {a0 a1 a2 a3 a4 a5 : Value} (h : w.heap[b]? = some (.cells #[a0, a1, a2, a3, a4, a5] t (0, 0))) :
    w.cell? ⟨b, 0, none⟩ = some a0 ∧ w.cell? ⟨b, 1, none⟩ = some a1 ∧ w.cell? ⟨b, 2, none⟩ = some a2 ∧ w.cell? ⟨b, 3, none⟩ = some a3 ∧ w.cell? ⟨b, 4, none⟩ = some a4 ∧ w.cell? ⟨b, 5, none⟩ = some a5 := by
  refine ⟨?_, ?_, ?_, ?_, ?_, ?_⟩ <;> simp [World.cell?, h]
set_option maxHeartbeats 2000000 in
theorem recordsWithin_ok (h : HN) (ok : h.OK) (a : Option Addr) (cap : Nat) (L : List Rec) (w : World) (hin : RIn w a L) (hlen : L.length ≤ 9223372036854775807) (hw : Within h L) :
    Calls Tryz.prog 51 #[h.bv (.slice a L.length cap)] w fun e w' => e = .returned (.bool true) ∧ Below w.heap.size w w' := by
  have HIN : Hid (RIn w a L) := hin
  have HW : Hid (Within h L) := hw
  obtain ⟨o1, o2, o3, o4, o5, o6, o7⟩ := ok
  obtain ⟨len, hl⟩ : ∃ len, L.length = len := ⟨_, rfl⟩
  unfold HN.bv
  rw [hl] at hlen ⊢
  have HL : Hid (L.length = len) := hl
  clear hin hw hl
  have HST : Hid (RW w (w.alloc (.cells #[.int .i64 (h.base : Nat), .int .i64 (h.cnt : Nat), .int .i64 (h.view : Nat), .int .i64 (h.prod : Nat), .int .i64 (h.seq : Nat), .slice a len cap] 46)) h a len cap L []) :=
    ⟨heap_alloc_new _ _, (Below.refl _ _).alloc (Nat.le_refl _) _, L, rfl⟩
  go_enter Tryz.func51, Tryz.ntmps51
  go_wp2
  go_loopw [8] (fun i wr => ∃ (M : List Rec), i = .int .i64 (M.length : Nat) ∧ RW w wr h a len cap L M) (fun i _ => len - (intOf i).toNat)
  case atStart => exact ⟨[], rfl, HST.out⟩
  case round =>
    obtain ⟨M, rfl, hr⟩ := hrel
    have HR : Hid (RW w wr h a len cap L M) := hr
    have hin' : RIn wr a L := HIN.out.below hr.bel (Nat.le_refl _)
    obtain ⟨T, hT⟩ := hr.pre
    clear hr
    cases T with
    | nil =>
      have hML : M.length = len := by have := HL.out; rw [hT, List.append_nil] at this; exact this
      clear hT hin'
      go_wp2
      go_ret
      exact ⟨rfl, HR.out.bel⟩
    | cons r T =>
      have hr0 : L[M.length]? = some r := by rw [hT]; simp
      have hlt : M.length < len := by have := HL.out; rw [hT] at this; simp at this; omega
      obtain ⟨hw1, hw2⟩ := HW.out r (by rw [hT]; simp)
      obtain ⟨sb, so, rfl, hsb, c0, c1, c2, c3⟩ := hin' _ _ hr0
      have HT : Hid (L = M ++ r :: T) := hT
      clear hT hin' hr0
      obtain ⟨off, key, val, gone⟩ := r
      simp only at c0 c1 c2 c3 hw1 hw2
      have HC : Hid (∀ W, Calls Tryz.prog 76 #[.int .i64 off, .int .i64 (h.base : Nat), .int .i64 ((h.base : Int) + (h.cnt : Int) - 1)] W fun e w' => e = .returned (.bool true) ∧ w' = W) := fun W => isWithin_yes _ _ _ W hw1 hw2
      have HBA : Hid (RW w (wr.alloc (.cells #[.int .i64 off, .string key, .string val, .bool gone] 49)) h (some ⟨sb, so, none⟩) len cap L (M ++ [⟨off, key, val, gone⟩])) :=
        ⟨(((Below.refl _ _).alloc (Nat.le_refl _) _).block _ (lt_of_block HR.out.blk)).trans HR.out.blk, HR.out.bel.trans (((Below.refl _ _).alloc (Nat.le_refl _) _).mono HR.out.bel.size), T, by rw [HT.out]; simp⟩
      obtain ⟨e0, e1, -, -, -, -⟩ := cells6 HR.out.blk
      have hne := lt_of_block HR.out.blk
      clear hw1 hw2
      go_wp2_with fail
      refine (HC.out _).mono ?_
      rintro e W ⟨rfl, hW⟩
      obtain rfl := hW.symm
      clear hW
      go_wp2
      go_roundw
      case rel => exact ⟨M ++ [⟨off, key, val, gone⟩], by simp, HBA.out⟩
      case measure => simp [intOf]; omega
end Go.Proofs.YtcjlcieheepegaaGreatDoor
