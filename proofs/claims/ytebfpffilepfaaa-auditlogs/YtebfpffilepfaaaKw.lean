/- Layer 18: AuditLogs walked. -/
import Derived.Test.YtebfpffilepfaaaKx
namespace Go.Proofs.Ytebfpffilepfaaa
open Go.RowKit Go.Maps Go.Shelf
set_option linter.unusedVariables false
set_option maxRecDepth 20000

theorem own_form {w : World} {B : Nat} {E : TypeId} {s n : Nat} {v : Value} {xs : List Value} (h : w.ownsRow B E s v n xs) : ∃ a c, v = .slice a n c := by
  rcases h.2 with ⟨e, h0⟩ | ⟨g, cap, cur, e, _⟩
  · exact ⟨none, 0, by rw [e, h0]⟩
  · exact ⟨_, _, e⟩
theorem one6' (a : Ak) : ∀ u ∈ ak6 a, u.oneCell' = true := by
  intro u hu
  simp only [ak6, List.mem_cons, List.not_mem_nil, or_false] at hu
  rcases hu with rfl | rfl | rfl | rfl | rfl | rfl <;> rfl
theorem one3w (p s : Int) (a : Option Addr) (n c : Nat) : ∀ u ∈ [Value.int .i64 p, .int .i64 s, .slice a n c], u.oneCell' = true := by
  intro u hu
  simp only [List.mem_cons, List.not_mem_nil, or_false] at hu
  rcases hu with rfl | rfl | rfl <;> rfl
theorem one3' (x : SV) : ∀ u ∈ sd3 x, u.oneCell' = true := by
  intro u hu
  simp only [sd3, List.mem_cons, List.not_mem_nil, or_false] at hu
  rcases hu with rfl | rfl | rfl <;> rfl
/-- What the first loop knows. -/
structure W1 (w wr : World) (va vk vm : Value) (I : Nat) (K : List Ba) (X : List SV) : Prop where
  rows : R3 w wr va vk vm (allOf 0 K) (aksOf 0 K) X
  sx : SX w X (sdsOf K)
  ok : BOk K
  lt : ∀ x ∈ K, x.1 < I ∧ ROk x.2
  len : K.length ≤ I
  sz : szs K ≤ I * 256
theorem aksOf_length (K : List Ba) : ∀ b, (aksOf b K).length = K.length := by
  induction K with
  | nil => intro b; rfl
  | cons x K ih => intro b; simp only [aksOf, List.length_cons, ih]
theorem W1.skip {w wr : World} {va vk vm : Value} {I : Nat} {K : List Ba} {X : List SV} (h : W1 w wr va vk vm I K X) : W1 w wr va vk vm (I + 1) K X :=
  ⟨h.rows, h.sx, h.ok, fun x hx => ⟨Nat.lt_succ_of_lt (h.lt x hx).1, (h.lt x hx).2⟩, by have := h.len; omega, by have := h.sz; omega⟩
theorem W1.next {w wr w' : World} {va vk vm va' vk' vm' : Value} {I : Nat} {K : List Ba} {X : List SV} {M : List Rec} {ra : Option Addr} {rc : Nat} (h : W1 w wr va vk vm I K X) (hI : I < 60) (hM : 1 ≤ M.length) (hM2 : M.length ≤ 256) (hro : ROk M) (hrc : M.length ≤ rc) (hri : RIn w ra M)
    (hr : R3 w w' va' vk' vm' (allOf 0 K ++ numb (szs K) M) (aksOf 0 K ++ [⟨(I : Nat), 1, (I : Nat), 0, ((szs K : Nat) : Int), (M.length : Nat)⟩]) (X ++ [(⟨1, (I : Nat), M⟩, ra, rc)])) : W1 w w' va' vk' vm' (I + 1) (K ++ [(I, M)]) (X ++ [(⟨1, (I : Nat), M⟩, ra, rc)]) := by
  refine ⟨?_, ?_, ?_, ?_, ?_, ?_⟩
  · rw [allOf_snoc, aksOf_snoc, Nat.zero_add]; exact hr
  · refine ⟨by rw [List.map_append, h.sx.1]; simp [sdsOf], fun x hx => ?_⟩
    rw [List.mem_append, List.mem_singleton] at hx
    rcases hx with hx | rfl
    · exact h.sx.2 x hx
    · exact ⟨hrc, hri⟩
  · refine ⟨List.pairwise_append.2 ⟨h.ok.up, List.pairwise_singleton _ _, fun x hx y hy => ?_⟩, fun x hx => ?_⟩
    · rw [List.mem_singleton] at hy
      subst hy
      exact (h.lt x hx).1
    · rw [List.mem_append, List.mem_singleton] at hx
      rcases hx with hx | rfl
      · exact h.ok.one x hx
      · exact ⟨hM, hM2, hI⟩
  · intro x hx
    rw [List.mem_append, List.mem_singleton] at hx
    rcases hx with hx | rfl
    · exact ⟨Nat.lt_succ_of_lt (h.lt x hx).1, (h.lt x hx).2⟩
    · exact ⟨Nat.lt_succ_self _, hro⟩
  · rw [List.length_append]; have := h.len; simp; omega
  · rw [szs_snoc]; have := h.sz; show szs K + M.length ≤ _; omega
theorem and_mask (x : Int) (k : Nat) (hk : k ≤ 62) (m : Int) (hm : m = ((2 ^ k - 1 : Nat) : Int)) (h16 : (BitVec.ofInt 64 m).toNat = 2 ^ k - 1) (hp : 2 ^ k ≤ 4611686018427387904) (hd : (18446744073709551616 : Int) % ((2 ^ k : Nat) : Int) = 0) : bits .and .i64 x m = x % ((2 ^ k : Nat) : Int) := by
  have key : (BitVec.ofInt 64 x &&& BitVec.ofInt 64 m).toNat = (x % ((2 ^ 64 : Nat) : Int)).toNat % 2 ^ k := by
    rw [BitVec.toNat_and, BitVec.toNat_ofInt, h16, Nat.and_two_pow_sub_one_eq_mod]
  show IntKind.i64.wrap ((BitVec.ofInt 64 x &&& BitVec.ofInt 64 m).toNat : Nat) = _
  rw [key, IntKind.wrap_i64]
  have h0 : 0 ≤ x % ((2 ^ 64 : Nat) : Int) := Int.emod_nonneg _ (by omega)
  have hdv : (x % ((2 ^ 64 : Nat) : Int)) % ((2 ^ k : Nat) : Int) = x % ((2 ^ k : Nat) : Int) := by
    apply Int.emod_emod_of_dvd
    exact Int.dvd_of_emod_eq_zero hd
  obtain ⟨y, hy⟩ := Int.eq_ofNat_of_zero_le h0
  rw [hy] at hdv ⊢
  rw [← hdv]
  have e : ((y : Int).toNat % 2 ^ k : Nat) = y % 2 ^ k := by simp
  have hpos : 0 < 2 ^ k := Nat.pos_of_ne_zero (by simp)
  have hlt : y % 2 ^ k < 2 ^ k := Nat.mod_lt _ hpos
  rw [e]
  have e2 : (y : Int) % ((2 ^ k : Nat) : Int) = ((y % 2 ^ k : Nat) : Int) := by simp
  rw [e2]
  omega
theorem part_row {w wr w7 : World} {P : List Rec} {m g7 cap7 : Nat} (hl : P.length = m) (hown : w7.ownsRow w.heap.size 36 4 (.slice (some ⟨g7, 0, none⟩) (0 + m) cap7) (0 + m) ([] ++ rcs P)) (hg : wr.grownBy w7 (Value.slice none 0 0).ownBlock) (hat : (Value.slice none 0 0).ownBlock = some g7 ∨ g7 = wr.heap.size) (hgl : g7 < w7.heap.size) : RIn w7 (some ⟨g7, 0, none⟩) P ∧ Below wr.heap.size wr w7 ∧ wr.heap.size ≤ g7 ∧ g7 < w7.heap.size := by
  rw [Nat.zero_add, List.nil_append] at hown
  refine ⟨row_rin (c := cap7) (by rw [hl]; exact hown), ⟨hg.os, hg.tape, hg.output, hg.size, fun k hk => hg.block k hk (by simp [Value.ownBlock])⟩, ?_, hgl⟩
  rcases hat with h | h
  · simp [Value.ownBlock] at h
  · omega
theorem part_is {A : List Rec} {fr m j1 : Nat} (hj : 1000 ≤ j1 ∧ j1 ≤ 2000) (h : fr + m ≤ A.length) : Part A ⟨(j1 : Nat), 0, (fr : Nat), 0, (A.drop fr).take m⟩ :=
  ⟨rfl, by show (1000 : Int) ≤ (j1 : Nat); omega, by show ((j1 : Nat) : Int) ≤ 2000; omega, fr, m, h, rfl, rfl⟩
theorem one5w (a b c d : Int) (x : Option Addr) (n k : Nat) : ∀ u ∈ [Value.int .i64 a, .int .i64 b, .int .i64 c, .int .i64 d, .slice x n k], u.oneCell' = true := by
  intro u hu
  simp only [List.mem_cons, List.not_mem_nil, or_false] at hu
  rcases hu with rfl | rfl | rfl | rfl | rfl <;> rfl
theorem row_fin {w : World} {B c : Nat} {a : Option Addr} {Y : List FV} (h : w.ownsRow B 40 5 (.slice a Y.length c) Y.length (Y.flatMap fe5)) (hl : ∀ y ∈ Y, RIn w y.2.1 y.1.rec') : FIn w a (Y.map Prod.fst) := by
  intro i x hx
  obtain ⟨y, hy, rfl⟩ : ∃ y, Y[i]? = some y ∧ y.1 = x := by
    rw [List.getElem?_map, Option.map_eq_some_iff] at hx
    exact hx
  have hri := hl y (List.mem_of_getElem? hy)
  rcases h.2 with ⟨e, h0⟩ | ⟨g, cap, cur, e, _, hh, _⟩
  · have e1 : Y = [] := List.eq_nil_of_length_eq_zero h0
    subst e1
    simp at hy
  · simp only [Value.slice.injEq] at e
    obtain ⟨rfl, _, rfl⟩ := e
    have hc := h.cells (g := g) rfl
    have hg := row_get fe5 5 (fun _ => rfl) Y i y hy
    refine ⟨g, 0, y.2.1, y.2.2, rfl, lt_of_block hh, ?_, ?_, ?_, ?_, ?_, hri⟩
    · have := hc (i * 5 + 0) _ (hg 0 (by omega)); rw [adz] at this; simpa using this
    · have := hc (i * 5 + 1) _ (hg 1 (by omega)); rw [adz] at this; simpa using this
    · have := hc (i * 5 + 2) _ (hg 2 (by omega)); rw [adz] at this; simpa using this
    · have := hc (i * 5 + 3) _ (hg 3 (by omega)); rw [adz] at this; simpa using this
    · have := hc (i * 5 + 4) _ (hg 4 (by omega)); rw [adz] at this; simpa using this
theorem all_ok : ∀ (K : List Ba) (b : Nat), (∀ x ∈ K, ROk x.2) → b + szs K ≤ 1000000 → ROk (allOf b K)
  | [], b, _, _ => fun r hr => by simp [allOf] at hr
  | x :: K, b, h, hb => fun r hr => by
    unfold allOf at hr
    simp only [szs] at hb
    rw [List.mem_append] at hr
    rcases hr with hr | hr
    · obtain ⟨j, hj⟩ := List.mem_iff_getElem?.1 hr
      have hjl := (List.getElem?_eq_some_iff.1 hj).1
      rw [numb_length] at hjl
      unfold numb at hj
      rw [List.getElem?_mapIdx, Option.map_eq_some_iff] at hj
      obtain ⟨q, hq, rfl⟩ := hj
      have hqo := h x (by simp) q (List.mem_of_getElem? hq)
      exact ⟨⟨by show (_ : Int) ≤ ((b + j : Nat) : Int); omega, by show ((b + j : Nat) : Int) ≤ _; omega⟩, hqo.2⟩
    · exact all_ok K _ (fun y hy => h y (by simp [hy])) (by omega) r hr
theorem ssum_of : ∀ K : List Ba, ssum (sdsOf K) = szs K
  | [] => rfl
  | x :: K => by
    show x.2.length + ssum (sdsOf K) = x.2.length + szs K
    rw [ssum_of K]
theorem logs_ok {w w0 wr : World} {va vk vm va' : Value} {I J q xq yl kc mc fc : Nat} {ka ma fa : Option Addr} {K : List Ba} {X : List SV} {Y : List FV} (h1 : W1 w w0 va vk vm I K X) (hI : I ≤ 60) (h2 : W2 w wr va' (.slice ka q kc) (.slice ma xq mc) (.slice fa yl fc) J (allOf 0 K) (aksOf 0 K) X Y) (hJ : J ≤ 60) (hq : (aksOf 0 K).length = q) (hx : X.length = xq) (hy : Y.length = yl) :
    (∀ W, Below wr.heap.size wr W → Calls Try.prog 5 #[.slice ka q kc] W fun e w' => e = .returned (.tuple #[.int .i64 0, .int .i64 0]) ∧ Below W.heap.size W w') ∧
    (∀ W, Below wr.heap.size wr W → Calls Try.prog 6 #[.slice fa yl fc, .slice ma xq mc] W fun e w' => e = .returned (.tuple #[.int .i64 0, .int .i64 0]) ∧ Below W.heap.size W w') ∧
    ∀ W, Below wr.heap.size wr W → Calls Try.prog 7 #[.slice ka q kc, .slice fa yl fc, .slice ma xq mc] W fun e w' => e = .returned (.tuple #[.int .i64 0, .int .i64 0]) ∧ Below W.heap.size W w' := by
  subst hq
  subst hy
  have hsz : szs K ≤ 15360 := by have := h1.sz; omega
  have hkl : K.length ≤ 60 := by have := h1.len; omega
  have hsl : (sdsOf K).length = K.length := by simp [sdsOf]
  have hal : (aksOf 0 K).length = K.length := aksOf_length K 0
  have hxs : X.length = (sdsOf K).length := by rw [← h1.sx.1, List.length_map]
  rw [hxs] at hx
  subst hx
  have hai : AIn wr ka (aksOf 0 K) := row_ain h2.rows.aks
  have hrs := h2.rows.said
  rw [hxs] at hrs
  have hsi : SInC wr ma (sdsOf K) := row_sin hrs h1.sx h2.rows.bel
  have hsi' : SIn wr ma (sdsOf K) := fun i x hx => by
    obtain ⟨b, off, ra, rc, e, hl, c0, c1, c2, _, hr⟩ := hsi i x hx
    exact ⟨b, off, ra, rc, e, hl, c0, c1, c2, hr⟩
  have hfi : FIn wr fa (Y.map Prod.fst) := row_fin h2.fets fun y hy => (h2.lists y hy).1
  have hrk : ROk (allOf 0 K) := all_ok K 0 (fun x hx => (h1.lt x hx).2) (by omega)
  have hA : Log0 (allOf 0 K) := fun j r h => by have := allOf_off K 0 j r h; rwa [Nat.zero_add] at this
  have hpt : ∀ f ∈ Y.map Prod.fst, Part (allOf 0 K) f := fun f hf => by
    obtain ⟨y, hy, rfl⟩ := List.mem_map.1 hf
    exact h2.parts y hy
  have hAl : (allOf 0 K).length = szs K := allOf_length K 0
  have hfo : FOk (Y.map Prod.fst) := fun f hf => by
    obtain ⟨_, _, _, fr, n, hl, _, e⟩ := hpt f hf
    rw [e]
    refine ⟨fun r hr => hrk r (List.mem_of_mem_drop (List.mem_of_mem_take hr)), ?_⟩
    rw [List.length_take]
    omega
  have hso : SOk (sdsOf K) := fun s hs => by
    simp only [sdsOf, List.mem_map] at hs
    obtain ⟨x, hx, rfl⟩ := hs
    have := (h1.ok.one x hx).2.1
    exact ⟨(h1.lt x hx).2, by show x.2.length ≤ _; omega⟩
  have hyn := h2.len
  have hfs := h2.sum
  have hgd := aks_good (b := 0) h1.ok (by omega)
  have hap := aks_apart K 0 h1.ok
  refine ⟨fun W hb => ?_, fun W hb => ?_, fun W hb => ?_⟩
  · have h := acks_ok ka kc (aksOf 0 K) W (hai.below hb (Nat.le_refl _)) (aks_ok K 0 h1.ok) (by omega)
    rw [fbad_clear (aksOf 0 K) [] hgd (by simpa using hap)] at h
    exact h
  · have h := fetches_ok fa fc (Y.map Prod.fst) ma mc (sdsOf K) W (hfi.below hb (Nat.le_refl _)) (hsi'.below hb (Nat.le_refl _)) hfo hso (by rw [List.length_map]; omega) (by omega) (by omega) (by rw [ssum_of]; omega)
    rw [ffbad_clear hA (allOf_zero K 0) (Y.map Prod.fst) [] (by simpa using hpt), List.length_map] at h
    exact h
  · have hdm := dues_of K 0
    have hup : DUp (duesOf (aksOf 0 K) (sdsOf K)) := up_of (b := 0) (fun j r hj => by rw [hdm] at hj; exact allOf_off K 0 j r hj)
    have hmem : ∀ d ∈ duesOf (aksOf 0 K) (sdsOf K), d.rec' ∈ allOf 0 K := fun d hd => by rw [← hdm]; exact List.mem_map.2 ⟨d, hd, rfl⟩
    have hdl : (duesOf (aksOf 0 K) (sdsOf K)).length = szs K := by rw [← hAl, ← hdm, List.length_map]
    have hst : ∀ d ∈ duesOf (aksOf 0 K) (sdsOf K), d.step < (60 : Nat) := dues_step K 0 (fun x hx => (h1.ok.one x hx).2.2)
    have h := keeps_ok ka kc (aksOf 0 K) fa fc (Y.map Prod.fst) ma mc (sdsOf K) _ _ W (hai.below hb (Nat.le_refl _)) (aks_ok K 0 h1.ok) hgd (hap.imp fun h => h.1) (hfi.below hb (Nat.le_refl _)) hfo (hsi.bel hb) (goes_of K 0) rfl rfl hup (fun d hd => hrk _ (hmem d hd)) (fun f hf => by
      obtain ⟨he, hs1, hs2, fr, n, hl, _, e⟩ := hpt f hf
      refine ⟨he, by omega, by rw [e, List.length_take]; omega, .inl fun d hd => ?_⟩
      have := hst d (List.mem_filter.1 hd).1
      omega) (by omega) (by omega) (by omega) (by rw [List.length_map]; omega)
    rw [List.length_map] at h
    refine h.mono fun e w' hk => ⟨?_, hk.2⟩
    have hno : ∀ f ∈ Y.map Prod.fst, ¬ Lk (List.filter (keepB ((duesOf (aksOf 0 K) (sdsOf K)).map Due.rec' ++ noted (Y.map Prod.fst))) (duesOf (aksOf 0 K) (sdsOf K))) f := fun f hf => part_told hA (fun d hd => hmem d (List.mem_filter.1 hd).1) (hpt f hf)
    rcases hk.1 with ⟨h1, _⟩ | ⟨P, f, R, e1, e2, _, _⟩
    · exact h1
    · exact absurd e2 (hno f (by rw [e1]; simp))
/-- A slice tells pairs of numbers. -/
def PIn (w : World) (a : Option Addr) (L : List (Int × Int)) : Prop :=
  ∀ i x, L[i]? = some x → ∃ b off, a = some ⟨b, off, none⟩ ∧ b < w.heap.size ∧ w.cell? ⟨b, off + i * 2, none⟩ = some (.int .i64 x.1) ∧ w.cell? ⟨b, off + i * 2 + 1, none⟩ = some (.int .i64 x.2)
set_option maxHeartbeats 8000000 in
theorem auditLogs_walk (sa : Option Addr) (scap : Nat) (S : List Sd) (pa : Option Addr) (pcap : Nat) (PL : List (Int × Int)) (w : World) (hsin : SInC w sa S) (hso : ∀ s ∈ S, ROk s.rec') (hpin : PIn w pa PL) :
    Calls Try.prog 3 #[.slice sa S.length scap, .slice pa PL.length pcap] w fun e w' => e = .returned (.bool true) ∧ Below w.heap.size w w' := by
  have HIN : Hid (SInC w sa S) := hsin
  have HSO : Hid (∀ s ∈ S, ROk s.rec') := hso
  obtain ⟨len, hl⟩ : ∃ len, S.length = len := ⟨_, rfl⟩
  have HL : Hid (S.length = len) := hl
  obtain ⟨plen, hpl⟩ : ∃ plen, PL.length = plen := ⟨_, rfl⟩
  have HPL : Hid (PL.length = plen) := hpl
  have HPI : Hid (PIn w pa PL) := hpin
  rw [hl, hpl]
  clear hsin hso hl hpin hpl
  obtain ⟨ir, hi, hz0, hz1, hz3⟩ := info_of recInfo
  have HR : Hid (Try.prog.info? 36 = some ir ∧ ir.zero = some zRec ∧ ir.size = 4 ∧ ir.bytes = 48) := ⟨hi, hz0, hz1, hz3⟩
  clear hi hz0 hz1 hz3
  obtain ⟨ik, hi, hz0, hz1, hz3⟩ := info_of akInfo
  have HK : Hid (Try.prog.info? 33 = some ik ∧ ik.zero = some (.agg #[.int .i64 0, .int .i64 0, .int .i64 0, .int .i64 0, .int .i64 0, .int .i64 0]) ∧ ik.size = 6 ∧ ik.bytes = 48) := ⟨hi, hz0, hz1, hz3⟩
  clear hi hz0 hz1 hz3
  obtain ⟨im, hi, hz0, hz1, hz3⟩ := info_of sdInfo
  have HM : Hid (Try.prog.info? 34 = some im ∧ im.zero = some (.agg #[.int .i64 0, .int .i64 0, .slice none 0 0]) ∧ im.size = 3 ∧ im.bytes = 40) := ⟨hi, hz0, hz1, hz3⟩
  clear hi hz0 hz1 hz3
  obtain ⟨ie, hi, hz0, hz1, hz3⟩ := info_of feInfo
  have HF : Hid (Try.prog.info? 40 = some ie ∧ ie.zero = some (.agg #[.int .i64 0, .int .i64 0, .int .i64 0, .int .i64 0, .slice none 0 0]) ∧ ie.size = 5 ∧ ie.bytes = 56) := ⟨hi, hz0, hz1, hz3⟩
  clear hi hz0 hz1 hz3
  go_enter Try.func3, Try.ntmps3
  go_wp2_with fail
  go_loopw [5, 6, 7, 8] (fun va vk vm i wr => ∃ VA VK VM I K X, VA = va ∧ VK = vk ∧ VM = vm ∧ i = .int .i64 (I : Nat) ∧ I ≤ 60 ∧ W1 w wr VA VK VM I K X) (fun _ _ _ i _ => 60 - (intOf i).toNat)
  case atStart => exact ⟨_, _, _, 0, [], [], rfl, rfl, rfl, rfl, by omega, ⟨⟨World.ownsRow_nil _ _ _ _, World.ownsRow_nil _ _ _ _, World.ownsRow_nil _ _ _ _, Below.refl _ _⟩, ⟨rfl, fun x hx => by simp at hx⟩, ⟨List.Pairwise.nil, fun x hx => by simp at hx⟩, fun x hx => by simp at hx, by simp, by simp [szs]⟩⟩
  case round =>
    obtain ⟨VA, VK, VM, I, K, X, rfl, rfl, rfl, rfl, hI60, hW⟩ := hrel
    have HW : Hid (W1 w wr VA VK VM I K X) := hW
    have hwr : w.heap.size ≤ wr.heap.size := hW.rows.bel.size
    clear hW
    go_upto_region 5 with fail
    go_cut [31] (fun t wc => t = .bool (decide (I < len ∧ I < 60)) ∧ wc = wr)
    case first =>
      by_cases h1 : I < len
      · have h1i : (I : Int) < (len : Int) := by omega
        have h1d : decide (I < len) = true := decide_eq_true h1
        by_cases h2 : I < 60
        · have h2i : (I : Int) < 60 := by omega
          have h2d : decide (I < 60) = true := decide_eq_true h2
          have HE : Hid (decide (I < len ∧ I < 60) = true) := decide_eq_true ⟨h1, h2⟩
          go_wp2_with fail
          go_meet
          case rel => exact ⟨by rw [HE.out], rfl⟩
        · have h2i : ¬ (I : Int) < 60 := by omega
          have h2d : decide (I < 60) = false := decide_eq_false h2
          have HE : Hid (decide (I < len ∧ I < 60) = false) := decide_eq_false (fun h => h2 h.2)
          go_wp2_with fail
          go_meet
          case rel => exact ⟨by rw [HE.out], rfl⟩
      · have h1i : ¬ (I : Int) < (len : Int) := by omega
        have h1d : decide (I < len) = false := decide_eq_false h1
        have HE : Hid (decide (I < len ∧ I < 60) = false) := decide_eq_false (fun h => h1 h.1)
        go_wp2_with fail
        go_meet
        case rel => exact ⟨by rw [HE.out], rfl⟩
    case rest =>
    obtain ⟨ht, hwc⟩ := hcut
    obtain rfl := hwc.symm
    clear hwc
    by_cases hgo : I < len ∧ I < 60
    · rw [decide_eq_true hgo] at ht
      subst ht
      obtain ⟨h1, h2⟩ := hgo
      have hx : S[I]? = some (S[I]'(by have := HL.out; omega)) := List.getElem?_eq_getElem _
      generalize (S[I]'(by have := HL.out; omega)) = x at hx
      have hro := HSO.out x (List.mem_of_getElem? hx)
      obtain ⟨sb, so, ra, rc, rfl, hsb, a0, a1, a2, hrc, hri⟩ := HIN.out _ _ hx
      have c2 := cellB HW.out.rows.bel a2
      have HRI : Hid (RIn w ra x.rec') := hri
      have HRO : Hid (ROk x.rec') := hro
      clear a0 a1 a2 hx hri hro
      obtain ⟨p, s, M⟩ := x
      simp only at c2 hrc
      obtain ⟨ml, hml⟩ : ∃ ml, M.length = ml := ⟨_, rfl⟩
      have HML : Hid (M.length = ml) := hml
      rw [hml] at c2 hrc
      clear hml
      by_cases hz : ml = 0
      · have hzb : ((ml : Int) == 0) = true := by simp [hz]
        go_wp2_with fail
        exact ⟨⟨_, _, _, I + 1, K, X, rfl, rfl, rfl, by go_num, by omega, HW.out.skip⟩, by simp [intOf]; omega⟩
      · have hzb : ((ml : Int) == 0) = false := by simp; omega
        by_cases hbig : 256 < ml
        · have hbi : (ml : Int) > 256 := by omega
          go_wp2_with fail
          exact ⟨⟨_, _, _, I + 1, K, X, rfl, rfl, rfl, by go_num, by omega, HW.out.skip⟩, by simp [intOf]; omega⟩
        · have hbi : ¬ (ml : Int) > 256 := by omega
          obtain ⟨n, hn⟩ : ∃ n, szs K = n := ⟨_, rfl⟩
          have HN : Hid ((allOf 0 K).length = n ∧ szs K = n) := ⟨by rw [allOf_length, hn], hn⟩
          have hnb : n ≤ 15360 := by have := HW.out.sz; omega
          obtain ⟨aa, ca, e1⟩ := own_form HW.out.rows.all
          rw [HN.out.1] at e1
          subst e1
          obtain ⟨q, hq⟩ : ∃ q, (aksOf 0 K).length = q := ⟨_, rfl⟩
          have HQ : Hid ((aksOf 0 K).length = q) := hq
          have hqb : q ≤ 60 := by have := HW.out.len; rw [← hq, aksOf_length]; omega
          obtain ⟨xq, hxq⟩ : ∃ xq, X.length = xq := ⟨_, rfl⟩
          have HXQ : Hid (X.length = xq) := hxq
          have hxb : xq ≤ 60 := by
            have h3 := congrArg List.length HW.out.sx.1
            rw [List.length_map] at h3
            have h4 := HW.out.len
            have h5 : (sdsOf K).length = K.length := by simp [sdsOf]
            omega
          clear hn hq hxq
          have HBU : Hid (Below wr.heap.size wr (wr.alloc (.cells #[.int .i64 1, .int .i64 (I : Nat)] 28)) ∧ (wr.alloc (.cells #[.int .i64 1, .int .i64 (I : Nat)] 28)).heap[wr.heap.size]? = some (.cells #[.int .i64 1, .int .i64 (I : Nat)] 28 (0, 0))) := ⟨below_a _ _, heap_alloc_new _ _⟩
          go_upto_region 10 with fail
          generalize (wr.alloc (.cells #[.int .i64 1, .int .i64 (I : Nat)] 28)) = w9 at HBU
          clear c2
          obtain ⟨d0, d1⟩ := cells2 HBU.out.2
          have HOK : Hid (∀ o, (w9.alloc o).ownsRow w.heap.size 33 6 VK q ((aksOf 0 K).flatMap ak6) ∧ w.heap.size ≤ (w9.alloc o).heap.size) := fun o => by
            have h := ((HW.out.rows.below HBU.out.1).below (below_a w9 o)).aks
            rw [HQ.out] at h
            exact ⟨h, Nat.le_trans hwr (Nat.le_trans HBU.out.1.size (below_a w9 o).size)⟩
          go_upto_region 11 with (at_builtin; refine wpList_append_lies _ rfl _ _ 25 rfl w.heap.size 33 ik (.agg #[.int .i64 0, .int .i64 0, .int .i64 0, .int .i64 0, .int .i64 0, .int .i64 0]) 6 48 Try.underlying25 HK.out.1 HK.out.2.1 HK.out.2.2.1 HK.out.2.2.2 rfl (by decide) VK q ((aksOf 0 K).flatMap ak6) rfl (HOK.out _).1 ⟨w9.heap.size, 0, none⟩ 1 1 (ak6 ⟨(I : Nat), 1, (I : Nat), 0, (n : Nat), (ml : Nat)⟩) rfl rfl (newsP _ _ _) (one6' _) (by decide) (by unfold maxLen; omega) (by omega) (HOK.out _).2 _ rfl ?_; intro g5 cap5 w10 hown hgrow hat hgl; have HA : Hid (R3 w w10 (.slice aa n ca) (.slice (some ⟨g5, 0, none⟩) (q + 1) cap5) VM (allOf 0 K) (aksOf 0 K ++ [⟨(I : Nat), 1, (I : Nat), 0, (n : Nat), (ml : Nat)⟩]) X ∧ w10.heap[wr.heap.size]? = some (.cells #[.int .i64 1, .int .i64 (I : Nat)] 28 (0, 0))) := ⟨(by have := HW.out.rows.ack (d := ⟨(I : Nat), 1, (I : Nat), 0, (n : Nat), (ml : Nat)⟩) (HBU.out.1.trans ((below_a w9 _).mono HBU.out.1.size)) hgrow (by rw [HQ.out]; exact hown); rw [HQ.out] at this; exact this), (hgrow.block _ (Nat.lt_of_lt_of_le (lt_of_block HBU.out.2) (below_a w9 _).size) (fun e => by have := (own_block HW.out.rows.aks e.symm).2; omega)).trans (((below_a w9 _).block _ (lt_of_block HBU.out.2)).trans HBU.out.2)⟩; clear hown hgrow hat hgl)
          clear d0 d1
          obtain ⟨d0, d1⟩ := cells2 HA.out.2
          have HOS : Hid (∀ o, (w10.alloc o).ownsRow w.heap.size 34 3 VM xq (X.flatMap sd3) ∧ w.heap.size ≤ (w10.alloc o).heap.size) := fun o => by
            have h := (HA.out.1.below (below_a w10 o)).said
            rw [HXQ.out] at h
            exact ⟨h, Nat.le_trans HA.out.1.bel.size (below_a w10 o).size⟩
          go_upto_region 12 with (at_builtin; refine wpList_append_lies _ rfl _ _ 26 rfl w.heap.size 34 im (.agg #[.int .i64 0, .int .i64 0, .slice none 0 0]) 3 40 Try.underlying26 HM.out.1 HM.out.2.1 HM.out.2.2.1 HM.out.2.2.2 rfl (by decide) VM xq (X.flatMap sd3) rfl (HOS.out _).1 ⟨w10.heap.size, 0, none⟩ 1 1 [.int .i64 1, .int .i64 (I : Nat), .slice ra ml rc] rfl rfl (newsP _ _ _) (one3w _ _ _ _ _) (by decide) (by unfold maxLen; omega) (by omega) (HOS.out _).2 _ rfl ?_; intro g6 cap6 w11 hown hgrow hat hgl; have HS : Hid (R3 w w11 (.slice aa n ca) (.slice (some ⟨g5, 0, none⟩) (q + 1) cap5) (.slice (some ⟨g6, 0, none⟩) (xq + 1) cap6) (allOf 0 K) (aksOf 0 K ++ [⟨(I : Nat), 1, (I : Nat), 0, (n : Nat), (ml : Nat)⟩]) (X ++ [(⟨1, (I : Nat), M⟩, ra, rc)])) := (by have := HA.out.1.sd (d := (⟨1, (I : Nat), M⟩, ra, rc)) (below_a w10 _) hgrow (by rw [HXQ.out]; simp only [sd3, HML.out]; exact hown); rw [HXQ.out] at this; exact this); clear hown hgrow hat hgl)
          clear d0 d1
          obtain ⟨vk, hvk⟩ : ∃ vk, (.slice (some ⟨g5, 0, none⟩) (q + 1) cap5 : Value) = vk := ⟨_, rfl⟩
          obtain ⟨vm, hvm⟩ : ∃ vm, (.slice (some ⟨g6, 0, none⟩) (xq + 1) cap6 : Value) = vm := ⟨_, rfl⟩
          rw [hvk, hvm] at HS
          rw [hvk, hvm]
          clear hvk hvm
          go_wp2_with fail
          go_loopw [5, 11] (fun va k wr => ∃ VA Q T, VA = va ∧ M = Q ++ T ∧ k = .int .i64 (Q.length : Nat) ∧ R3 w wr VA vk vm (allOf 0 K ++ numb n Q) (aksOf 0 K ++ [⟨(I : Nat), 1, (I : Nat), 0, (n : Nat), (ml : Nat)⟩]) (X ++ [(⟨1, (I : Nat), M⟩, ra, rc)])) (fun _ k _ => ml - (intOf k).toNat)
          case atStart => exact ⟨_, [], M, rfl, rfl, rfl, by simpa [numb] using HS.out⟩
          case round =>
            obtain ⟨VA, Q, T, rfl, hQT, rfl, hR⟩ := hrel
            have HR3 : Hid (R3 w wr VA vk vm (allOf 0 K ++ numb n Q) (aksOf 0 K ++ [⟨(I : Nat), 1, (I : Nat), 0, (n : Nat), (ml : Nat)⟩]) (X ++ [(⟨1, (I : Nat), M⟩, ra, rc)])) := hR
            have hwr2 : w.heap.size ≤ wr.heap.size := hR.bel.size
            clear hR
            cases T with
            | nil =>
              have hQM : Q = M := by rw [hQT, List.append_nil]
              have hQl : Q.length = ml := by rw [hQM]; exact HML.out
              have HE : Hid (W1 w wr VA vk vm (I + 1) (K ++ [(I, M)]) (X ++ [(⟨1, (I : Nat), M⟩, ra, rc)])) := by
                refine HW.out.next h2 (by rw [HML.out]; omega) (by rw [HML.out]; omega) HRO.out (by rw [HML.out]; exact hrc) HRI.out ?_
                have := HR3.out
                rw [hQM] at this
                rw [HN.out.2, HML.out]
                exact this
              rw [hQl]
              clear hQT hQM hQl
              go_wp2_with fail
              exact ⟨⟨_, _, _, I + 1, _, _, rfl, rfl, rfl, by go_num, by omega, HE.out⟩, by simp [intOf]; omega⟩
            | cons y T =>
              have hltq : Q.length < ml := by have := HML.out; rw [hQT] at this; simp at this; omega
              have hy : M[Q.length]? = some y := by rw [hQT]; simp
              obtain ⟨yb, yo, rfl, hyb, e0, e1, e2, e3⟩ := HRI.out.bel HR3.out.bel _ _ hy
              have HQT : Hid (M = Q ++ y :: T) := hQT
              clear hQT hy
              obtain ⟨oo, kk, vv, gg⟩ := y
              simp only at e0 e1 e2 e3
              obtain ⟨c, hc⟩ : ∃ c, n + Q.length = c := ⟨_, rfl⟩
              have HC : Hid ((allOf 0 K ++ numb n Q).length = c ∧ n + Q.length = c) := ⟨by rw [List.length_append, numb_length, HN.out.1, hc], hc⟩
              have hcb : c ≤ 20000 := by omega
              obtain ⟨ab, cb, e4⟩ := own_form HR3.out.all
              rw [HC.out.1] at e4
              subst e4
              clear hc
              have HB12 : Hid (Below wr.heap.size wr (wr.alloc (.cells #[.int .i64 (c : Nat), .string kk, .string vv, .bool gg] 36)) ∧ (wr.alloc (.cells #[.int .i64 (c : Nat), .string kk, .string vv, .bool gg] 36)).heap[wr.heap.size]? = some (.cells #[.int .i64 (c : Nat), .string kk, .string vv, .bool gg] 36 (0, 0))) := ⟨below_a _ _, heap_alloc_new _ _⟩
              have hfz := frozen0 (heap_alloc_new wr (.cells #[.int .i64 oo, .string kk, .string vv, .bool gg] 36)) 0
              go_upto_region 17 with fail
              clear e0 e1 e2 e3 hfz
              generalize (wr.alloc (.cells #[.int .i64 (c : Nat), .string kk, .string vv, .bool gg] 36)) = w12 at HB12
              obtain ⟨d0, d1, d2, d3⟩ := cells4 HB12.out.2
              have HOA : Hid (∀ o, (w12.alloc o).ownsRow w.heap.size 36 4 (.slice ab c cb) c (rcs (allOf 0 K ++ numb n Q)) ∧ w.heap.size ≤ (w12.alloc o).heap.size) := fun o => by
                have h := ((HR3.out.below HB12.out.1).below (below_a w12 o)).all
                rw [HC.out.1] at h
                exact ⟨h, Nat.le_trans hwr2 (Nat.le_trans HB12.out.1.size (below_a w12 o).size)⟩
              go_wp2_with (at_builtin; refine wpList_append_lies _ rfl _ _ 24 rfl w.heap.size 36 ir zRec 4 48 Try.underlying24 HR.out.1 HR.out.2.1 HR.out.2.2.1 HR.out.2.2.2 rfl (by decide) (.slice ab c cb) c (rcs (allOf 0 K ++ numb n Q)) rfl (HOA.out _).1 ⟨w12.heap.size, 0, none⟩ 1 1 (rc4 ⟨(c : Nat), kk, vv, gg⟩) rfl rfl (newsP _ _ _) (one4 _) (by decide) (by unfold maxLen; omega) (by omega) (HOA.out _).2 _ rfl ?_; intro g7 cap7 w13 hown hgrow hat hgl; have HNX : Hid (R3 w w13 (.slice (some ⟨g7, 0, none⟩) (c + 1) cap7) vk vm (allOf 0 K ++ numb n (Q ++ [⟨oo, kk, vv, gg⟩])) (aksOf 0 K ++ [⟨(I : Nat), 1, (I : Nat), 0, (n : Nat), (ml : Nat)⟩]) (X ++ [(⟨1, (I : Nat), M⟩, some ⟨yb, yo, none⟩, rc)])) := (by have := HR3.out.rec' (d := ⟨(c : Nat), kk, vv, gg⟩) (HB12.out.1.trans ((below_a w12 _).mono HB12.out.1.size)) hgrow (by rw [HC.out.1]; exact hown); rw [HC.out.1] at this; rw [numb_snoc, HC.out.2, ← List.append_assoc]; exact this); clear hown hgrow hat hgl)
              exact ⟨⟨_, Q ++ [⟨oo, kk, vv, gg⟩], T, rfl, by rw [HQT.out, List.append_assoc]; rfl, by simp, HNX.out⟩, by simp [intOf]; omega⟩
    · obtain ⟨n, hn⟩ : ∃ n, szs K = n := ⟨_, rfl⟩
      have HN : Hid ((allOf 0 K).length = n ∧ szs K = n) := ⟨by rw [allOf_length, hn], hn⟩
      have hnb : n ≤ 15360 := by have := HW.out.sz; omega
      obtain ⟨aa, ca, e1⟩ := own_form HW.out.rows.all
      rw [HN.out.1] at e1
      subst e1
      rw [decide_eq_false hgo] at ht
      subst ht
      clear hn hgo
      go_wp2_with fail
      go_loopw [13, 14] (fun vf j wr => ∃ VF J Y, VF = vf ∧ j = .int .i64 (J : Nat) ∧ J ≤ 60 ∧ W2 w wr (.slice aa n ca) VK VM VF J (allOf 0 K) (aksOf 0 K) X Y) (fun _ j _ => 60 - (intOf j).toNat)
      case atStart => exact ⟨_, 0, [], rfl, rfl, by omega, ⟨HW.out.rows, World.ownsRow_nil _ _ _ _, fun y hy => by simp at hy, fun y hy => by simp at hy, by simp, by simp [fsum]⟩⟩
      case round =>
        obtain ⟨VF, J, Y, rfl, rfl, hJ60, hW2⟩ := hrel
        have HW2 : Hid (W2 w wr (.slice aa n ca) VK VM VF J (allOf 0 K) (aksOf 0 K) X Y) := hW2
        have hwr2 : w.heap.size ≤ wr.heap.size := hW2.rows.bel.size
        clear hW2
        go_upto_region 20 with fail
        go_cut [89] (fun t wc => t = .bool (decide (J < plen ∧ J < 60)) ∧ wc = wr)
        case first =>
          by_cases h1 : J < plen
          · have h1i : (J : Int) < (plen : Int) := by omega
            have h1d : decide (J < plen) = true := decide_eq_true h1
            by_cases h2 : J < 60
            · have h2i : (J : Int) < 60 := by omega
              have h2d : decide (J < 60) = true := decide_eq_true h2
              have HE : Hid (decide (J < plen ∧ J < 60) = true) := decide_eq_true ⟨h1, h2⟩
              go_wp2_with fail
              go_meet
              case rel => exact ⟨by rw [HE.out], rfl⟩
            · have h2i : ¬ (J : Int) < 60 := by omega
              have h2d : decide (J < 60) = false := decide_eq_false h2
              have HE : Hid (decide (J < plen ∧ J < 60) = false) := decide_eq_false (fun h => h2 h.2)
              go_wp2_with fail
              go_meet
              case rel => exact ⟨by rw [HE.out], rfl⟩
          · have h1i : ¬ (J : Int) < (plen : Int) := by omega
            have h1d : decide (J < plen) = false := decide_eq_false h1
            have HE : Hid (decide (J < plen ∧ J < 60) = false) := decide_eq_false (fun h => h1 h.1)
            go_wp2_with fail
            go_meet
            case rel => exact ⟨by rw [HE.out], rfl⟩
        case rest =>
        obtain ⟨ht, hwc⟩ := hcut
        obtain rfl := hwc.symm
        clear hwc
        by_cases hgo : J < plen ∧ J < 60
        · rw [decide_eq_true hgo] at ht
          subst ht
          obtain ⟨h1, h2⟩ := hgo
          have hx : PL[J]? = some (PL[J]'(by have := HPL.out; omega)) := List.getElem?_eq_getElem _
          generalize (PL[J]'(by have := HPL.out; omega)) = x at hx
          obtain ⟨pb, po, rfl, hpb, a0, a1⟩ := HPI.out _ _ hx
          have c0 := cellB HW2.out.rows.bel a0
          have c1 := cellB HW2.out.rows.bel a1
          clear a0 a1 hx
          obtain ⟨p0, p1⟩ := x
          simp only at c0 c1
          obtain ⟨xb, hxb, hxb2⟩ : ∃ x : Nat, x ≤ 255 ∧ bits .and .i64 p0 255 = ((x : Nat) : Int) := ⟨(p0 % 256).toNat, by omega, by rw [and_mask p0 8 (by omega) 255 rfl (by decide) (by decide) (by decide)]; omega⟩
          obtain ⟨yb, hyb, hyb2⟩ : ∃ x : Nat, x ≤ 255 ∧ bits .and .i64 p1 255 = ((x : Nat) : Int) := ⟨(p1 % 256).toNat, by omega, by rw [and_mask p1 8 (by omega) 255 rfl (by decide) (by decide) (by decide)]; omega⟩
          obtain ⟨n1, hn1⟩ : ∃ n1, n + 1 = n1 := ⟨_, rfl⟩
          have hn1i : (n : Int) + 1 = (n1 : Int) := by omega
          have hn10 : ((n1 : Int) == 0) = false := by simp; omega
          obtain ⟨fr, hfr⟩ : ∃ fr, xb % n1 = fr := ⟨_, rfl⟩
          have hfri : (xb : Int) % (n1 : Int) = (fr : Int) := by omega
          have hfr1 : fr < n1 := by rw [← hfr]; exact Nat.mod_lt _ (by omega)
          obtain ⟨dd, hdd⟩ : ∃ dd, n - fr = dd := ⟨_, rfl⟩
          have hddi : (n : Int) - (fr : Int) = (dd : Int) := by omega
          obtain ⟨d1, hd1⟩ : ∃ d1, dd + 1 = d1 := ⟨_, rfl⟩
          have hd1i : (dd : Int) + 1 = (d1 : Int) := by omega
          have hd10 : ((d1 : Int) == 0) = false := by simp; omega
          obtain ⟨m, hm⟩ : ∃ m, yb % d1 = m := ⟨_, rfl⟩
          have hmi : (yb : Int) % (d1 : Int) = (m : Int) := by omega
          have hm1 : m < d1 := by rw [← hm]; exact Nat.mod_lt _ (by omega)
          have hmb : m ≤ 255 := by rw [← hm]; exact Nat.le_trans (Nat.mod_le _ _) hyb
          obtain ⟨tt, hto⟩ : ∃ tt, fr + m = tt := ⟨_, rfl⟩
          have htoi : (fr : Int) + (m : Int) = (tt : Int) := by omega
          have HNM : Hid (fr + m = tt ∧ tt ≤ n ∧ m ≤ 255) := ⟨hto, by omega, hmb⟩
          clear hn1 hfr hdd hd1 hm
          go_upto_region 25 with fail
          try rw [hfri]
          clear hn1i hn10 hfri hddi hd1i hd10 hmi htoi hxb2 hyb2 hxb hyb c0 c1
          have hsub : tt - fr = m := by omega
          have hsubi : (tt : Int) - (fr : Int) = (m : Int) := by omega
          have hft : fr ≤ tt := by omega
          have hfti : (fr : Int) ≤ (tt : Int) := by omega
          have htn : tt ≤ n := HNM.out.2.1
          have hfn : fr ≤ n := by omega
          clear hto
          go_cut [17] (fun l wc => ∃ la lc, l = .slice la m lc ∧ RIn wc la (((allOf 0 K).drop fr).take m) ∧ Below wr.heap.size wr wc ∧ ∀ g o s, la = some ⟨g, o, s⟩ → wr.heap.size ≤ g ∧ g < wc.heap.size)
          case first =>
            have hall := HW2.out.rows.all
            rw [HN.out.1] at hall
            rcases hall.2 with ⟨ea, e0⟩ | ⟨g, cap, cur, ea, hg, hbk, hcap, hcm, _⟩
            · simp only [Value.slice.injEq] at ea
              obtain ⟨rfl, rfl, rfl⟩ := ea
              have hm0 : m = 0 := by omega
              have hf0 : fr = 0 := by omega
              have ht0 : tt = 0 := by omega
              subst hm0 hf0 ht0
              clear hall
              go_wp2_with (at_builtin; refine wpList_append_nothing rfl _ _ 24 rfl 36 ir Try.underlying24 HR.out.1 none 0 0 (Nat.le_refl _) rfl _ _ rfl (fun _ => rfl) ?_)
              go_meet
              case rel => exact ⟨none, 0, rfl, fun i r hr => by simp at hr, Below.refl _ _, fun g o s e => by cases e⟩
            · simp only [Value.slice.injEq] at ea
              obtain ⟨rfl, _, rfl⟩ := ea
              have htc : tt ≤ ca := by omega
              have hfc : fr ≤ ca := by omega
              have HALL : Hid (wr.ownsRow w.heap.size 36 4 (.slice (some ⟨g, 0, none⟩) n ca) n (rcs (allOf 0 K))) := hall
              clear hall hbk
              by_cases hm0 : m = 0
              · subst hm0
                by_cases hcf : ca = fr
                · subst hcf
                  go_wp2_with (at_builtin; refine wpList_append_nothing rfl _ _ 24 rfl 36 ir Try.underlying24 HR.out.1 none 0 0 (Nat.le_refl _) rfl _ _ rfl (fun _ => rfl) ?_)
                  go_meet
                  case rel => exact ⟨none, 0, rfl, fun i r hr => by simp at hr, Below.refl _ _, fun g o s e => by cases e⟩
                · go_wp2_with (at_builtin; refine wpList_append_nothing rfl _ _ 24 rfl 36 ir Try.underlying24 HR.out.1 none 0 0 (Nat.le_refl _) rfl _ _ rfl (fun _ => rfl) ?_)
                  go_meet
                  case rel => exact ⟨none, 0, rfl, fun i r hr => by simp at hr, Below.refl _ _, fun g o s e => by cases e⟩
              · have hlp : (((allOf 0 K).drop fr).take m).length = m := by rw [List.length_take, List.length_drop, HN.out.1]; omega
                have HLP : Hid ((((allOf 0 K).drop fr).take m).length = m) := hlp
                have HNW : Hid (∀ j u, (rcs (((allOf 0 K).drop fr).take m))[j]? = some u → wr.cell? ((⟨g, fr * 4, none⟩ : Addr).add j) = some u) := row_cell HALL.out (by rw [HN.out.1]; exact hfn)
                have HLN : Hid ((rcs (((allOf 0 K).drop fr).take m)).length = m * 4) := show _ = _ by rw [rcs_length, hlp]
                clear hlp
                have hcf : ¬ ca = fr := by omega
                go_wp2_with (at_builtin; (refine wpList_append_lies _ rfl _ _ 24 rfl w.heap.size 36 ir zRec 4 48 Try.underlying24 HR.out.1 HR.out.2.1 HR.out.2.2.1 HR.out.2.2.2 rfl (by decide) (.slice none 0 0) 0 [] rfl (World.ownsRow_nil _ _ _ _) ⟨g, fr * 4, none⟩ m (ca - fr) (rcs (((allOf 0 K).drop fr).take m)) rfl HLN.out HNW.out (rcs_one _) (by omega) (by unfold maxLen; omega) (by omega) hwr2 _ rfl ?_; intro g7 cap7 w7 hown hgrow hat hgl; have HQ7 : Hid (RIn w7 (some ⟨g7, 0, none⟩) (((allOf 0 K).drop fr).take m) ∧ Below wr.heap.size wr w7 ∧ wr.heap.size ≤ g7 ∧ g7 < w7.heap.size) := part_row HLP.out hown hgrow hat hgl; clear hown hgrow hat hgl))
                go_meet
                case rel => exact ⟨some ⟨g7, 0, none⟩, cap7, by simp, HQ7.out.1, HQ7.out.2.1, fun g o s e => by cases e; exact ⟨HQ7.out.2.2.1, HQ7.out.2.2.2⟩⟩
          case rest =>
          obtain ⟨la, lc, hl17, hlr, hlb, hlg⟩ := hcut
          subst hl17
          have HP : Hid (RIn wc la (((allOf 0 K).drop fr).take m) ∧ Below wr.heap.size wr wc ∧ ∀ g o s, la = some ⟨g, o, s⟩ → wr.heap.size ≤ g ∧ g < wc.heap.size) := ⟨hlr, hlb, hlg⟩
          have HLP : Hid ((((allOf 0 K).drop fr).take m).length = m) := show _ = _ by rw [List.length_take, List.length_drop, HN.out.1]; omega
          clear hlr hlb hlg hsub hsubi
          obtain ⟨j1, hj1⟩ : ∃ j1, 1000 + J = j1 := ⟨_, rfl⟩
          have hj1i : (1000 : Int) + (J : Int) = (j1 : Int) := by omega
          have hj1b : 1000 ≤ j1 ∧ j1 ≤ 2000 := by omega
          clear hj1
          obtain ⟨yl, hyl⟩ : ∃ yl, Y.length = yl := ⟨_, rfl⟩
          have HYL : Hid (Y.length = yl) := hyl
          have hylb : yl ≤ 60 := by have := HW2.out.len; omega
          clear hyl
          have HOF : Hid (∀ o, (wc.alloc o).ownsRow w.heap.size 40 5 VF yl (Y.flatMap fe5) ∧ w.heap.size ≤ (wc.alloc o).heap.size) := fun o => by
            have h := ((HW2.out.below HP.out.2.1).below (below_a wc o)).fets
            rw [HYL.out] at h
            exact ⟨h, Nat.le_trans hwr2 (Nat.le_trans HP.out.2.1.size (below_a wc o).size)⟩
          go_wp2_with (at_builtin; refine wpList_append_lies _ rfl _ _ 37 rfl w.heap.size 40 ie (.agg #[.int .i64 0, .int .i64 0, .int .i64 0, .int .i64 0, .slice none 0 0]) 5 56 Try.underlying37 HF.out.1 HF.out.2.1 HF.out.2.2.1 HF.out.2.2.2 rfl (by decide) VF yl (Y.flatMap fe5) rfl (HOF.out _).1 ⟨wc.heap.size, 0, none⟩ 1 1 [.int .i64 (j1 : Nat), .int .i64 0, .int .i64 (fr : Nat), .int .i64 0, .slice la m lc] rfl rfl (newsP _ _ _) (one5w _ _ _ _ _ _ _) (by decide) (by unfold maxLen; omega) (by omega) (HOF.out _).2 _ rfl ?_; intro g8 cap8 w8 hown hgrow hat hgl; have HNX : Hid (W2 w w8 (.slice aa n ca) VK VM (.slice (some ⟨g8, 0, none⟩) (yl + 1) cap8) (J + 1) (allOf 0 K) (aksOf 0 K) X (Y ++ [(⟨(j1 : Nat), 0, (fr : Nat), 0, ((allOf 0 K).drop fr).take m⟩, la, lc)])) := (by have := HW2.out.next (d := (⟨(j1 : Nat), 0, (fr : Nat), 0, ((allOf 0 K).drop fr).take m⟩, la, lc)) (HP.out.2.1.trans ((below_a wc _).mono HP.out.2.1.size)) hgrow (by rw [HYL.out]; simp only [fe5, HLP.out]; exact hown) hat (HP.out.1.bel (below_a wc _)) (fun g' o s e => ⟨(HP.out.2.2 g' o s e).1, Nat.lt_of_lt_of_le (HP.out.2.2 g' o s e).2 (below_a wc _).size⟩) (part_is (by omega) (by rw [HN.out.1]; have := HNM.out; omega)) (by show (((allOf 0 K).drop fr).take m).length ≤ 255; rw [HLP.out]; exact hmb); rw [HYL.out] at this; exact this); clear hown hgrow hat hgl)
          exact ⟨⟨_, J + 1, _, rfl, by go_num, by omega, HNX.out⟩, by simp [intOf]; omega⟩
        · rw [decide_eq_false hgo] at ht
          subst ht
          clear hgo
          obtain ⟨ka, kc, e1⟩ := own_form HW2.out.rows.aks
          obtain ⟨ma, mc, e2⟩ := own_form HW2.out.rows.said
          obtain ⟨fa, fc, e3⟩ := own_form HW2.out.fets
          obtain ⟨q, hq⟩ : ∃ q, (aksOf 0 K).length = q := ⟨_, rfl⟩
          obtain ⟨xq, hxq⟩ : ∃ xq, X.length = xq := ⟨_, rfl⟩
          obtain ⟨yl, hyl⟩ : ∃ yl, Y.length = yl := ⟨_, rfl⟩
          rw [hq] at e1
          rw [hxq] at e2
          rw [hyl] at e3
          subst e1 e2 e3
          have HLG := logs_ok HW.out hI60 HW2.out hJ60 hq hxq hyl
          have HLG : Hid _ := HLG
          clear hq hxq hyl
          have H3 : Hid (∀ W, Calls Try.prog 8 #[] W fun e w' => e = .returned (.bool true) ∧ Below W.heap.size W w') := awake18
          have HB0 : Hid (Below w.heap.size w wr) := HW2.out.rows.bel
          go_wp2_with fail
          refine (HLG.out.1 _ (Below.refl _ _)).mono ?_
          rintro e w1 ⟨rfl, hb1⟩
          have HB1 : Hid (Below wr.heap.size wr w1) := hb1
          clear hb1
          go_wp2_with fail
          refine (HLG.out.2.1 _ HB1.out).mono ?_
          rintro e w2 ⟨rfl, hb2⟩
          have HB2 : Hid (Below wr.heap.size wr w2) := HB1.out.trans (hb2.mono HB1.out.size)
          clear hb2
          go_wp2_with fail
          refine (HLG.out.2.2 _ HB2.out).mono ?_
          rintro e w3 ⟨rfl, hb3⟩
          have HB3 : Hid (Below wr.heap.size wr w3) := HB2.out.trans (hb3.mono HB2.out.size)
          clear hb3
          go_wp2_with fail
          refine (H3.out _).mono ?_
          rintro e w4 ⟨rfl, hb4⟩
          have HB4 : Hid (Below w.heap.size w w4) := HB0.out.trans ((HB3.out.trans (hb4.mono HB3.out.size)).mono hwr2)
          clear hb4
          go_wp2_with fail
          go_ret
          exact ⟨rfl, HB4.out⟩
end Go.Proofs.Ytebfpffilepfaaa
