/- Layer 11: a disk's Read from any place on. -/
import Derived.Test.YtmokjopffgmfjaaGreatDoorV21
namespace Go.Proofs.YtmokjopffgmfjaaGreatDoor.V8
open Go.RowKit
set_option linter.unusedVariables false
set_option maxRecDepth 20000

/-- string(b[a:a + k]) of bytes that lie in a row. -/
theorem conv_part {P : Program} (w : World) (src dst e : TypeId) (B g n cap : Nat) (l : List Nat) (hs : P.underlying src = some (.slice e)) (he : P.underlying e = some (.int .u8)) (hd : P.underlying dst = some .string)
    (hown : w.ownsRow B e 1 (.slice (some ⟨g, 0, none⟩) n cap) l.length (bcells l)) (hl : ∀ x ∈ l, x < 256) (a k c : Nat) (hak : a + k ≤ l.length) : (convert src dst (.slice (some ⟨g, a, none⟩) k c)).run P w = .ok (.string (toBA ((l.drop a).take k))) w := by
  have hlen : (((l.drop a).take k).map UInt8.ofNat).length = k := by simp; omega
  have := run_convert_bytes_back (P := P) w src dst e ⟨g, a, none⟩ c (((l.drop a).take k).map UInt8.ofNat) hs he hd (fun j hj => by
    have hj' : j < k := by rw [hlen] at hj; exact hj
    have hx := hl l[a + j] (List.getElem_mem _)
    have hc := hown.cells (g := g) rfl (a + j) (.int .u8 (l[a + j] : Nat)) (by simp [bcells, List.getElem?_eq_getElem (show a + j < l.length by omega)])
    have e1 : (⟨g, 0, none⟩ : Addr).add (a + j) = (⟨g, a, none⟩ : Addr).add j := by simp [Addr.add]; split <;> split <;> simp_all <;> omega
    rw [← e1, hc]
    simp
    omega)
  rw [hlen] at this
  rw [this]
  rfl
theorem read_at (w : World) (B d room cnt us : Nat) (F : List UInt8 → Option (List Nat × Nat)) (h : VD w B d room F cnt us) (s : ByteArray) (hm : May s) (l : List Nat) (n : Nat) (hs : F s.data.toList = some (l, n)) (a k : Nat) (hk : a + k ≤ l.length) (hk1 : 1 ≤ k) :
    Calls Tryz.prog 21 #[.pointer (some ⟨d, 0, none⟩), .string s, .int .i64 (a : Nat), .int .i64 (k : Nat)] w fun e w' => e = .returned (.tuple #[.string (toBA ((l.drop a).take k)), .int .i64 0]) ∧ w' = w := by
  have hln := h.some_ hs
  have hbd := h.bounds
  have h00 := h
  obtain ⟨bm, M, h1, h2, h3, h4⟩ := h
  obtain ⟨m, hf, e⟩ := look_some ((h2 _).trans hs)
  cases e
  have HF : Hid (∀ _ : Unit, Calls Tryz.prog 37 #[.pointer (some ⟨d, 0, none⟩), .string s] w fun e w' => e = .returned (.tuple #[.pointer (some ⟨m.blk, 0, none⟩), .int .i64 0]) ∧ w' = w) := fun _ => find_some w B d room bm M h1 s hm m hf
  have hK := h1.each m (findF_some hf).1
  have c0 := hK.cells.1
  obtain ⟨q, hq⟩ : ∃ q, m.blk = q := ⟨_, rfl⟩
  rw [hq] at HF c0
  have hk0 : ¬ (k : Int) < 0 := by omega
  have ha0 : ¬ (a : Int) < 0 := by omega
  rcases hK.own.2 with ⟨hv, h0⟩ | ⟨g, cap, cur, hv, hB, hh, hnc, hcm, hcs, htk⟩
  · omega
  · have hown := hK.own
    rw [hv] at hown
    have hcv := conv_part (P := Tryz.prog) w 70 9 5 B g m.l.length cap m.l Tryz.underlying70 Tryz.underlying5 Tryz.underlying9 hown hK.bytes a k (cap - a) hk
    obtain ⟨L, hL⟩ : ∃ q, m.l.length = q := ⟨_, rfl⟩
    obtain ⟨R, hR⟩ : ∃ R, toBA ((m.l.drop a).take k) = R := ⟨_, rfl⟩
    rw [hv, hL] at c0
    rw [hR] at hcv ⊢
    obtain ⟨z, hz⟩ : ∃ z, a + k = z := ⟨_, rfl⟩
    have hza : z - a = k := by omega
    have hza' : (z : Int).toNat - a = k := by omega
    have hzs : (a : Int) + (k : Int) = (z : Int) := by omega
    have haL : ¬ (L : Int) < (a : Int) := by omega
    obtain ⟨y, hy⟩ : ∃ y, L - a = y := ⟨_, rfl⟩
    have hys : (L : Int) - (a : Int) = (y : Int) := by omega
    have hky : ¬ (y : Int) < (k : Int) := by omega
    have haz : (a : Int) ≤ (z : Int) := by omega
    have hazn : a ≤ z := by omega
    have hzc : z ≤ cap := by omega
    have hca : ¬ cap = a := by omega
    have hzci : (z : Int) ≤ (cap : Int) := by omega
    have hyb : y ≤ 16777216 := by omega
    have hzb : z ≤ 16777216 := by omega
    have hab : a ≤ 16777216 := by omega
    have hkb : k ≤ 16777216 := by omega
    have hLb : L ≤ 16777216 := by omega
    clear h1 h2 h3 h4 hs hm hf hK hv hq hk hk1 hown hR hh hcm hcs htk hnc hL hln hbd hz hy hB h00
    go_enter Tryz.func21, Tryz.ntmps21
    go_wp2_with fail
    refine (HF.out ()).mono ?_
    rintro e W ⟨rfl, hW⟩
    obtain rfl := hW.symm
    go_wp2
    go_ret2
    exact ⟨rfl, rfl⟩
end Go.Proofs.YtmokjopffgmfjaaGreatDoor.V8
