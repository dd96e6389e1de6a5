/- Layer 18: the document's isSaid walked. -/
import Derived.Test.YtbjlnbcnjknheaaUl
namespace Go.Proofs.Ytbjlnbcnjknheaa
open Go.RowKit Go.Maps
set_option linter.unusedVariables false
set_option maxRecDepth 20000

theorem zeros_mem (P : List Sd) (x : Rec) : x ∈ zeros P ↔ ∃ s ∈ P, ∃ y ∈ s.rec', y.zero = x := by
  unfold zeros
  simp only [List.mem_flatMap, List.mem_map]
set_option maxHeartbeats 2000000 in
theorem isSaid_ok (b : Option Addr) (cap : Nat) (S : List Sd) (r : Rec) (w : World) (hin : SIn w b S) (hok : SOk S) (hlen : S.length ≤ 9223372036854775807) :
    Calls Try.prog 22 #[.slice b S.length cap, r.v] w fun e w' => ∃ t : Bool, e = .returned (.bool t) ∧ (t = true ↔ r.zero ∈ zeros S) ∧ Below w.heap.size w w' := by
  have HIN : Hid (SIn w b S) := hin
  have HOK : Hid (SOk S) := hok
  obtain ⟨len, hl⟩ : ∃ len, S.length = len := ⟨_, rfl⟩
  have HL : Hid (S.length = len) := hl
  rw [hl] at hlen ⊢
  clear hin hok hl
  obtain ⟨ro, rk, rv, rg⟩ := r
  simp only [Rec.v]
  obtain ⟨Z, hZ⟩ : ∃ Z : Rec, (⟨ro, rk, rv, rg⟩ : Rec).zero = Z := ⟨_, rfl⟩
  have HZ : Hid ((⟨0, rk, rv, rg⟩ : Rec) = Z) := hZ
  rw [hZ]
  clear hZ
  obtain ⟨F, hF⟩ : ∃ F, w.heap.size = F := ⟨_, rfl⟩
  have HB0 : Hid (Below w.heap.size w (w.alloc (.cells #[.int .i64 ro, .string rk, .string rv, .bool rg] 51)) ∧ (w.alloc (.cells #[.int .i64 ro, .string rk, .string rv, .bool rg] 51)).heap[F]? = some (.cells #[.int .i64 ro, .string rk, .string rv, .bool rg] 51 (0, 0))) :=
    ⟨below_a _ _, by rw [← hF]; exact heap_alloc_new _ _⟩
  go_enter Try.func22, Try.ntmps22
  go_wp2_with fail
  clear hF
  generalize (w.alloc (.cells #[.int .i64 ro, .string rk, .string rv, .bool rg] 51)) = w0 at HB0
  go_loopw [5] (fun i wr => ∃ P R, S = P ++ R ∧ i = .int .i64 (P.length : Nat) ∧ Z ∉ zeros P ∧ Below w.heap.size w wr ∧ wr.heap[F]? = some (.cells #[.int .i64 ro, .string rk, .string rv, .bool rg] 51 (0, 0))) (fun i _ => len - (intOf i).toNat)
  case atStart => exact ⟨[], S, rfl, rfl, by simp [zeros], HB0.out.1, HB0.out.2⟩
  case round =>
    obtain ⟨P, R, hPR, rfl, hf, hB, hC⟩ := hrel
    have HB : Hid (Below w.heap.size w wr) := hB
    have HC : Hid (wr.heap[F]? = some (.cells #[.int .i64 ro, .string rk, .string rv, .bool rg] 51 (0, 0))) := hC
    have HF : Hid (Z ∉ zeros P) := hf
    have hwr : w.heap.size ≤ wr.heap.size := hB.size
    clear hB hf hC
    cases R with
    | nil =>
      have hPS : P = S := by rw [hPR, List.append_nil]
      subst hPS
      have hPL : P.length = len := HL.out
      clear hPR
      go_wp2_with fail
      go_ret
      exact ⟨false, rfl, ⟨fun h => (by cases h), fun h => absurd h HF.out⟩, HB.out⟩
    | cons x R =>
      have hlt : P.length < len := by have := HL.out; rw [hPR] at this; simp at this; omega
      have hx : S[P.length]? = some x := by rw [hPR]; simp
      obtain ⟨hro, hrl⟩ := HOK.out x (by rw [hPR]; simp)
      obtain ⟨sb, so, ra, rc, rfl, hsb, c0, c1, c2, hri⟩ := HIN.out _ _ hx
      have HC2 : Hid (w.cell? ⟨sb, so + P.length * 3 + 2, none⟩ = some (.slice ra x.rec'.length rc)) := c2
      have HPR : Hid (S = P ++ x :: R) := hPR
      have HRI : Hid (RIn w ra x.rec') := hri
      clear hPR hx hri hro c0 c1 c2
      obtain ⟨p, s, M⟩ := x
      simp only at hrl
      obtain ⟨ml, hml⟩ : ∃ ml, M.length = ml := ⟨_, rfl⟩
      have HML : Hid (M.length = ml) := hml
      simp only at HC2
      rw [hml] at hrl HC2
      clear hml
      go_wp2_with fail
      go_loopw [6] (fun k wi => ∃ Q T, M = Q ++ T ∧ k = .int .i64 (Q.length : Nat) ∧ (∀ y ∈ Q, y.zero ≠ Z) ∧ Below w.heap.size w wi ∧ wi.heap[F]? = some (.cells #[.int .i64 ro, .string rk, .string rv, .bool rg] 51 (0, 0))) (fun k _ => ml - (intOf k).toNat)
      case atStart => exact ⟨[], M, rfl, rfl, fun y h => by simp at h, HB.out, HC.out⟩
      case round =>
        obtain ⟨Q, T, hQT, rfl, hn, hB, hC⟩ := hrel
        have HBI : Hid (Below w.heap.size w wr) := hB
        have HCI : Hid (wr.heap[F]? = some (.cells #[.int .i64 ro, .string rk, .string rv, .bool rg] 51 (0, 0))) := hC
        have HN : Hid (∀ y ∈ Q, y.zero ≠ Z) := hn
        have hri := HRI.out.bel hB
        have c2 := cellB hB HC2.out
        have hsw : w.heap.size ≤ wr.heap.size := hB.size
        clear hB hn hC
        cases T with
        | nil =>
          have hQM : Q = M := by rw [hQT, List.append_nil]
          subst hQM
          have hQl : Q.length = ml := HML.out
          have HE : Hid (Z ∉ zeros (P ++ [⟨p, s, Q⟩])) := fun h => by
            rw [zeros_snoc, List.mem_append] at h
            rcases h with h | h
            · exact HF.out h
            · obtain ⟨y, hy, e⟩ := List.mem_map.1 h
              exact HN.out y hy e
          clear hri hQT
          go_wp2_with fail
          exact ⟨⟨P ++ [⟨p, s, Q⟩], R, by rw [HPR.out, List.append_assoc]; rfl, by simp, HE.out, HBI.out, HCI.out⟩, by simp [intOf]; omega⟩
        | cons y T =>
          have hltq : Q.length < ml := by have := HML.out; rw [hQT] at this; simp at this; omega
          have hy : M[Q.length]? = some y := by rw [hQT]; simp
          obtain ⟨yb, yo, rfl, hyb, e0, e1, e2, e3⟩ := hri _ _ hy
          have HQT : Hid (M = Q ++ y :: T) := hQT
          clear hri hQT hy
          obtain ⟨o, k, v, g⟩ := y
          simp only at e0 e1 e2 e3
          obtain ⟨U, hU⟩ : ∃ U, wr.heap.size = U := ⟨_, rfl⟩
          have HB7 : Hid (Below wr.heap.size wr (wr.alloc (.cells #[.int .i64 o, .string k, .string v, .bool g] 51)) ∧ (wr.alloc (.cells #[.int .i64 o, .string k, .string v, .bool g] 51)).heap[U]? = some (.cells #[.int .i64 o, .string k, .string v, .bool g] 51 (0, 0)) ∧ (wr.alloc (.cells #[.int .i64 o, .string k, .string v, .bool g] 51)).heap[F]? = some (.cells #[.int .i64 ro, .string rk, .string rv, .bool rg] 51 (0, 0))) := ⟨below_a _ _, by rw [← hU]; exact heap_alloc_new _ _, ((below_a wr _).block F (lt_of_block HCI.out)).trans HCI.out⟩
          go_upto_region 8 with fail
          clear hU
          generalize (wr.alloc (.cells #[.int .i64 o, .string k, .string v, .bool g] 51)) = w7 at HB7
          clear e0 e1 e2 e3 c2
          have HBW : Hid (Below w.heap.size w w7) := HBI.out.trans (HB7.out.1.mono hsw)
          obtain ⟨d0, d1, d2, d3⟩ := cells4 HB7.out.2.1
          obtain ⟨f0, f1, f2, f3⟩ := cells4 HB7.out.2.2
          by_cases he : k = rk ∧ v = rv ∧ g = rg
          · obtain ⟨rfl, rfl, rfl⟩ := he
            have HE : Hid (Z ∈ zeros S) := by
              show Z ∈ zeros S
              rw [zeros_mem]
              exact ⟨⟨p, s, M⟩, by rw [HPR.out]; simp, ⟨o, k, v, g⟩, by rw [HQT.out]; simp, HZ.out⟩
            go_wp2_with fail
            go_ret
            exact ⟨true, rfl, ⟨fun _ => HE.out, fun _ => rfl⟩, HBW.out⟩
          · have HD : Hid (k.toList = rk.toList → v.toList = rv.toList → (g == rg) = true → False) := fun h1 h2 h3 => he ⟨toList_inj h1, toList_inj h2, by simpa using h3⟩
            have HN2 : Hid (∀ z ∈ Q ++ [⟨o, k, v, g⟩], z.zero ≠ Z) := fun z hz e => by
              rw [List.mem_append, List.mem_singleton] at hz
              rcases hz with hz | rfl
              · exact HN.out z hz e
              · rw [← HZ.out] at e
                simp only [Rec.zero, Rec.mk.injEq, true_and] at e
                exact he e
            clear he
            go_wp2_with fail
            all_goals first
              | exact (HD.out ‹_› ‹_› ‹_›).elim
              | exact ⟨⟨Q ++ [⟨o, k, v, g⟩], T, by rw [HQT.out, List.append_assoc]; rfl, by simp, HN2.out, HBW.out, HB7.out.2.2⟩, by simp [intOf]; omega⟩
end Go.Proofs.Ytbjlnbcnjknheaa
