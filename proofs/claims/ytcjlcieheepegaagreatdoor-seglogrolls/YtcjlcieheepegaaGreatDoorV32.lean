/- Layer 12: a log, and a part that is not in it yet, within a zone; roll. -/
/- Layer 12: Open of an empty disk. -/
import Derived.Test.YtcjlcieheepegaaGreatDoorV31
import Derived.Test.YtcjlcieheepegaaGreatDoorV23
namespace Go.Proofs.YtcjlcieheepegaaGreatDoor
open Go.RowKit
open V8 (VX KO Zn)
set_option linter.unusedVariables false
set_option maxRecDepth 20000
set_option maxRecDepth 20000

/-- A log, and a part behind it, within a zone. -/
structure RZ (w : World) (B Bd d g lim room cnt us : Nat) (F : List UInt8 → Option (List Nat × Nat)) (P : List Prt) (y : Prt) (Z : Nat → Prop) : Prop where
  rl : RL w B Bd d g lim room cnt us F P y
  vx : VX w Bd d room F cnt us Z
  zp : ZP w g P Z
  zy : Z y.p ∧ Z y.s ∧ ∀ j, rowOf w y.s = some j → Z j
theorem RZ.below {w w' : World} {B Bd d g lim room cnt us : Nat} {F : List UInt8 → Option (List Nat × Nat)} {P : List Prt} {y : Prt} {Z : Nat → Prop} (h : RZ w B Bd d g lim room cnt us F P y Z) (hb : Below w.heap.size w w') : RZ w' B Bd d g lim room cnt us F P y Z := by
  obtain ⟨pv, h1, _⟩ := h.rl.lq.blk
  exact ⟨h.rl.below hb, h.vx.below hb, h.zp.keep (hb.block _ (lt_of_block h1)) (fun x hx => hb.block _ (h.rl.lq.po x hx).sn.sg.lt), h.zy.1, h.zy.2.1, fun j hj => h.zy.2.2 j (rowOf_same (hb.block _ h.rl.yo.sn.sg.lt) ▸ hj)⟩
theorem RZ.wide {w : World} {B Bd d g lim room cnt us : Nat} {F : List UInt8 → Option (List Nat × Nat)} {P : List Prt} {y : Prt} {Z Z' : Nat → Prop} (h : RZ w B Bd d g lim room cnt us F P y Z) (hZ : ∀ i, Z i → Z' i) : RZ w B Bd d g lim room cnt us F P y Z' :=
  ⟨h.rl, h.vx.wide hZ, h.zp.wide hZ, hZ _ h.zy.1, hZ _ h.zy.2.1, fun j hj => hZ _ (h.zy.2.2 j hj)⟩
theorem RZ.app {w w' : World} {B Bd C d g lim room cnt us cnt' us' : Nat} {F : List UInt8 → Option (List Nat × Nat)} {P : List Prt} {y : Prt} {l' : List BT} {K' : List Nat} {o : Option (List Nat × Nat)} {Z : Nat → Prop} (h : RZ w B Bd d g lim room cnt us F P y Z) (hf : AF C y.s w w') (hsn : SN w' B y.s d y.base (nmB y.base) (V8.upd F (nmB y.base).data.toList o) l' K') (hvd : VX w' Bd d room (V8.upd F (nmB y.base).data.toList o) cnt' us' (Zn Z w)) :
    RZ w' B Bd d g lim room cnt' us' (V8.upd F (nmB y.base).data.toList o) P ⟨y.p, y.s, y.base, l', K'⟩ (Zn Z w) := by
  obtain ⟨pv, h1, h2⟩ := h.rl.lq.blk
  have hS := h.rl.yo.sn.sg
  have hg := hf.block hS h1 (by decide) (by decide) (by decide) (by decide) (neSeg hS h1 (by decide))
  refine ⟨h.rl.app hf hsn hvd.vd, hvd, ⟨.inl h.zp.zg, fun pv' e j hj => .inl (h.zp.row pv' (by simp only [World.cell?, hg] at e ⊢; exact e) j hj), fun z hz => ?_⟩, .inl h.zy.1, .inl h.zy.2.1, zrow hf h.zy.2.2⟩
  obtain ⟨z1, z2, z3⟩ := h.zp.p z hz
  exact ⟨.inl z1, .inl z2, fun j hj => .inl (z3 j ((((h.rl.lq.po z hz).sn.sg.other hf hS (h.rl.ya z hz).1.symm).2) ▸ hj))⟩
theorem RZ.syn {w w' : World} {B Bd C d g lim room cnt us cnt' us' : Nat} {F : List UInt8 → Option (List Nat × Nat)} {Q : List Prt} {x y : Prt} {o : Option (List Nat × Nat)} {Z : Nat → Prop} (h : RZ w B Bd d g lim room cnt us F (Q ++ [x]) y Z) (hf : AF C x.s w w') (hsn : SN w' B x.s d x.base (nmB x.base) (V8.upd F (nmB x.base).data.toList o) x.l x.K) (hvd : VX w' Bd d room (V8.upd F (nmB x.base).data.toList o) cnt' us' (Zn Z w)) :
    RZ w' B Bd d g lim room cnt' us' (V8.upd F (nmB x.base).data.toList o) (Q ++ [x]) y (Zn Z w) := by
  obtain ⟨pv, h1, h2⟩ := h.rl.lq.blk
  have hx := h.rl.lq.po x (by simp)
  have hS := hx.sn.sg
  have hg := hf.block hS h1 (by decide) (by decide) (by decide) (by decide) (neSeg hS h1 (by decide))
  refine ⟨h.rl.syn hf hsn hvd.vd, hvd, ⟨.inl h.zp.zg, fun pv' e j hj => .inl (h.zp.row pv' (by simp only [World.cell?, hg] at e ⊢; exact e) j hj), fun z hz => ?_⟩, .inl h.zy.1, .inl h.zy.2.1, fun j hj => .inl (h.zy.2.2 j (((h.rl.yo.sn.sg.other hf hS (h.rl.ya x (by simp)).1).2) ▸ hj))⟩
  obtain ⟨z1, z2, z3⟩ := h.zp.p z hz
  rcases List.mem_append.1 hz with hz' | hz'
  · have ha := ((List.pairwise_append.1 h.rl.lq.ap).2.2 z hz' x (by simp)).1.symm
    exact ⟨.inl z1, .inl z2, fun j hj => .inl (z3 j ((((h.rl.lq.po z hz).sn.sg.other hf hS ha).2) ▸ hj))⟩
  · rw [List.mem_singleton] at hz'
    subst hz'
    exact ⟨.inl z1, .inl z2, zrow hf z3⟩
theorem RZ.push {w w1 : World} {B Bd C d g lim room cnt us : Nat} {F : List UInt8 → Option (List Nat × Nat)} {P : List Prt} {y : Prt} {pv v' : Value} {Z : Nat → Prop} (h : RZ w B Bd d g lim room cnt us F P y Z) (hpv : w.heap[g]? = some (.cells #[.pointer (some ⟨g, 0, none⟩), .pointer (some ⟨d, 0, none⟩), .int .i64 (lim : Nat), pv] 58 (0, 0))) (hr : w.ownsRow B 51 1 pv P.length (pcl P)) (hgr : w.grownBy w1 pv.ownBlock) (ho : w1.ownsRow B 51 1 v' (P.length + 1) (pcl P ++ [.pointer (some ⟨y.p, 0, none⟩)])) (hat : v'.ownBlock = pv.ownBlock ∨ v'.ownBlock = some w.heap.size) (hCB : C ≤ B) (hCw : C ≤ w.heap.size) :
    LZ (w1.setCell ⟨g, 3, none⟩ v') B Bd d g lim room cnt us F (P ++ [y]) (Zn Z w) ∧ Below C w (w1.setCell ⟨g, 3, none⟩ v') ∧ KO Z w (w1.setCell ⟨g, 3, none⟩ v') := by
  obtain ⟨hL, hbel⟩ := h.rl.push (C := C) hpv hr hgr ho hCB hCw
  have K : ∀ (i : Nat) (o : Obj), w.heap[i]? = some o → (∀ cs m, o ≠ .cells cs 51 m) → i ≠ g → (w1.setCell ⟨g, 3, none⟩ v').heap[i]? = w.heap[i]? := fun i o hi hne hig => pushKept (cs := #[]) hr hgr i o hi hne hig
  have c3 : w.cell? ⟨g, 3, none⟩ = some pv := by simp [World.cell?, hpv]
  have hg1 : w1.heap[g]? = some (.cells #[.pointer (some ⟨g, 0, none⟩), .pointer (some ⟨d, 0, none⟩), .int .i64 (lim : Nat), pv] 58 (0, 0)) := by
    refine (hgr.block g (lt_of_block hpv) (fun e => ?_)).trans hpv
    obtain ⟨_, cs', e'⟩ := rowBlk hr e.symm
    rw [hpv] at e'
    cases e'
  have hSeg : ∀ {x : Prt}, PO w B d F x → rowOf (w1.setCell ⟨g, 3, none⟩ v') x.s = rowOf w x.s := fun {x} hx => by
    obtain ⟨qv, q1, _⟩ := hx.sn.sg.blk
    exact rowOf_same (K x.s _ q1 (fun cs m e => by cases e) (by
      intro e
      rw [e, hpv] at q1
      cases q1))
  refine ⟨⟨hL.lq, ?_, ⟨.inl h.zp.zg, fun pv' e j hj => ?_, fun z hz => ?_⟩, hL.fil⟩, hbel, fun i hi hn => ?_⟩
  · refine (h.vx.typed (fun i cs' t mk hi ht => K i _ hi (fun cs'' m'' e => by
      cases e
      rcases ht with h | h | h <;> revert h <;> decide) (by
      rintro rfl
      rw [hpv] at hi
      cases hi
      rcases ht with h | h | h <;> revert h <;> decide)) (fun i es c hi => K i _ hi (fun cs'' m'' e => by cases e) (by
      rintro rfl
      rw [hpv] at hi
      cases hi))).wide (fun i h => .inl h)
  · have e2 : (w1.setCell ⟨g, 3, none⟩ v').cell? ⟨g, 3, none⟩ = some v' := by
      have := block_set (i := 3) (u := v') hg1
      simp [World.cell?, this]
    rw [e2] at e
    cases e
    rcases hat with e3 | e3
    · exact .inl (h.zp.row pv c3 j (e3 ▸ hj))
    · rw [e3] at hj
      cases hj
      exact .inr (Nat.le_refl _)
  · rcases List.mem_append.1 hz with hz' | hz'
    · obtain ⟨z1, z2, z3⟩ := h.zp.p z hz'
      exact ⟨.inl z1, .inl z2, fun j hj => .inl (z3 j (hSeg (h.rl.lq.po z hz') ▸ hj))⟩
    · rw [List.mem_singleton] at hz'
      subst hz'
      exact ⟨.inl h.zy.1, .inl h.zy.2.1, fun j hj => .inl (h.zy.2.2 j (hSeg h.rl.yo ▸ hj))⟩
  · have hig : i ≠ g := fun e => hn (e ▸ h.zp.zg)
    rw [Below.heap_setCell _ _ _ _ (by simpa using hig)]
    exact hgr.block i hi (fun e => hn (h.zp.row pv c3 i e.symm))
set_option maxHeartbeats 4000000 in
theorem lroll_x (w : World) (B Bd C d g lim room cnt us : Nat) (F : List UInt8 → Option (List Nat × Nat)) (Q : List Prt) (x : Prt) (bt : BT) (Z : Nat → Prop) (h : LZ w B Bd d g lim room cnt us F (Q ++ [x]) Z) (hb : bt.ok) (hbase : bt.h.base = endB x.base x.l) (hT : TabF w) (hP : TabP w) (hC4 : 3 < C) (hCB : C ≤ B) (hCd : C ≤ Bd) (hBw : B ≤ w.heap.size) (hlt : x.base < endB x.base x.l) (hend : endB x.base x.l ≤ 1099511627520) (hr : us + bt.sz ≤ room) (hcn : cnt < 256) (hn : (Q ++ [x]).length ≤ 1000000) :
    Calls Tryz.prog 19 #[.pointer (some ⟨g, 0, none⟩), .string bt.s] w fun e w' => e = .returned (.int .i64 0) ∧ (∃ F' p s K' cnt', LZ w' B Bd d g lim room cnt' (us + bt.sz) F' (Q ++ [x] ++ [⟨p, s, endB x.base x.l, [bt], K'⟩]) (Zn Z w) ∧ cnt' ≤ cnt + 1) ∧ Below C w w' ∧ KO Z w w' := by
  obtain ⟨E, hE⟩ : ∃ E, endB x.base x.l = E := ⟨_, rfl⟩
  have HEnd : Hid (∀ W, Below w.heap.size w W → Calls Tryz.prog 7 #[.pointer (some ⟨g, 0, none⟩)] W fun e w' => e = .returned (.int .i64 (E : Nat)) ∧ w' = W.drew) := fun W hW => by
    rw [← hE]
    exact lend_ok W B d g lim F Q x (h.lq.below hW)
  have HOp : Hid (∀ W, Below w.heap.size w W → Calls Tryz.prog 22 #[.pointer (some ⟨d, 0, none⟩), .int .i64 (E : Nat)] W fun e w' => ∃ s p, e = .returned (.tuple #[.pointer (some ⟨p, 0, none⟩), .int .i64 0]) ∧ RZ w' B Bd d g lim room cnt us F (Q ++ [x]) ⟨p, s, E, [], []⟩ (Zn Z w) ∧ Below w.heap.size w w') := fun W hW => by
    have hW' := h.below hW
    have hlt' := hlt
    rw [hE] at hlt' hend
    have hbl := base_lt hW'.lq hlt'
    refine (openPart_ok W d E Bd room cnt us F hW'.vx.vd hend (nm_free h.fil hbl) (hP.low hW (by omega))).mono ?_
    rintro e w' ⟨s, p, rfl, hp, hsg, hlo, hbw⟩
    have hBW := Nat.le_trans hBw hW.size
    have hpW : w.heap.size ≤ W.heap.size := hW.size
    refine ⟨s, p, rfl, ⟨⟨hW'.lq.below hbw, ⟨hp, ⟨hsg.mono hBW, nmB_may E (by omega), .inl ⟨rfl, nm_free h.fil hbl⟩, trivial, (fun y hy => by cases hy), ⟨List.Pairwise.nil, (fun k hk => by cases hk), fun h0 => absurd rfl h0⟩⟩⟩, fun z hz => ⟨Apart.new hsg (hW'.lq.po z hz).sn.sg hbw, hbl z hz⟩, hW'.vx.vd.below hbw, fun t ht => ?_⟩, (hW'.vx.below hbw).wide (fun i h => .inl h), (hW'.below hbw).zp.wide (fun i h => .inl h), .inr (Nat.le_trans hpW hlo), .inr (Nat.le_trans hpW hsg.hB), fun j hj => .inr (Nat.le_trans hpW (hsg.rowT hj).1)⟩, hW.trans (hbw.mono hW.size)⟩
    obtain ⟨z, hz, e'⟩ := h.fil t ht
    exact ⟨z, List.mem_append_left _ hz, e'⟩
  have HAp : Hid (∀ W s p, RZ W B Bd d g lim room cnt us F (Q ++ [x]) ⟨p, s, E, [], []⟩ (Zn Z w) → Below w.heap.size w W → Calls Tryz.prog 18 #[.pointer (some ⟨s, 0, none⟩), .string bt.s] W fun e w' => e = .returned (.int .i64 0) ∧ ∃ F' K' cnt', RZ w' B Bd d g lim room cnt' (us + bt.sz) F' (Q ++ [x]) ⟨p, s, E, [bt], K'⟩ (Zn Z w) ∧ cnt' ≤ cnt + 1 ∧ (Below C w w' ∧ KO (Zn Z w) w w') ∧ w.heap.size ≤ w'.heap.size) := fun W s p hR hW => by
    refine (sn_append_x W B Bd C s d E room cnt us (nmB E) F [] [] bt (Zn Z w) hR.zy.2.1 hR.zy.2.2 hR.rl.yo.sn hR.vx hb (by rw [hbase, hE]; rfl) (hT.new hW) hCB hCd (Nat.le_trans hBw hW.size) (by simp) (by show (0 : Nat) ≤ _; omega) hr hcn).mono ?_
    rintro e w' ⟨rfl, ⟨o, K', cnt', hsn, hvd, hcc⟩, haf, hko⟩
    exact ⟨rfl, _, K', cnt', (hR.app (y := ⟨p, s, E, [], []⟩) haf hsn hvd).wide (zn_in hW.size), by rcases hcc with ⟨_, e⟩ | ⟨_, e⟩ <;> omega, ⟨(hW.mono (Nat.le_trans hCB hBw)).trans haf.below, (KO.below hW).trans hko hW.size (fun i _ h => h)⟩, Nat.le_trans hW.size haf.below.size⟩
  have HLa : Hid (∀ W F' cnt' us' y, RZ W B Bd d g lim room cnt' us' F' (Q ++ [x]) y (Zn Z w) → Calls Tryz.prog 15 #[.pointer (some ⟨g, 0, none⟩)] W fun e w' => e = .returned (.pointer (some ⟨x.p, 0, none⟩)) ∧ w' = W.drew) := fun W F' cnt' us' y hR => last_ok W B d g lim F' Q x hR.rl.lq
  have HSy : Hid (∀ W F' cnt' us' y, RZ W B Bd d g lim room cnt' us' F' (Q ++ [x]) y (Zn Z w) → (Below C w W ∧ KO (Zn Z w) w W) → w.heap.size ≤ W.heap.size → Calls Tryz.prog 34 #[.pointer (some ⟨x.s, 0, none⟩)] W fun e w' => e = .returned (.int .i64 0) ∧ ∃ F'', RZ w' B Bd d g lim room cnt' us' F'' (Q ++ [x]) y (Zn Z w) ∧ (Below C w w' ∧ KO (Zn Z w) w w') ∧ w.heap.size ≤ w'.heap.size) := fun W F' cnt' us' y hR hW hs => by
    refine (sn_sync_x W B Bd C x.s d x.base room cnt' us' (nmB x.base) F' x.l x.K (Zn Z w) (hR.rl.lq.po x (by simp)).sn hR.vx hCd (by omega)).mono ?_
    rintro e w' ⟨rfl, ⟨o, hsn, hvd⟩, haf, hko⟩
    exact ⟨rfl, _, (hR.syn haf hsn hvd).wide (zn_in hs), ⟨hW.1.trans haf.below, hW.2.trans hko hs (fun i _ h => h)⟩, Nat.le_trans hs haf.below.size⟩
  have HX := hide (And.intro hCB (And.intro hBw hn))
  obtain ⟨_, c1, _⟩ := h.lq.cells
  have k1 : ∀ W, Below w.heap.size w W → W.cell? ⟨g, 1, none⟩ = some (.pointer (some ⟨d, 0, none⟩)) := fun W hW => cellB hW c1
  have HK := hide k1
  obtain ⟨b, hbb⟩ : ∃ b, bt.s = b := ⟨_, rfl⟩
  obtain ⟨U2, hU2⟩ : ∃ U2, us + bt.sz = U2 := ⟨_, rfl⟩
  rw [hbb, hU2] at HAp
  rw [hbb, hU2, hE]
  have HE : Hid (E = E) := rfl
  obtain ⟨i0, hi0, hz0, hz1, hz2⟩ := info_parts prInfo
  have HI : Hid (_ ∧ _ ∧ _ ∧ _) := ⟨hi0, hz0, hz1, hz2⟩
  clear h hb hbase hT hP hC4 hCB hCd hBw hlt hend hr hcn hn hE hbb hU2 k1 hi0 hz0 hz1 hz2
  go_enter Tryz.func19, Tryz.ntmps19
  go_upto_region 1 with fail
  go_region_held_law (fun w' => w'.cell? ⟨g, 1, none⟩ = some (.pointer (some ⟨d, 0, none⟩)))
    (first | exact c1 | go_keep)
    (first
      | (go_at_call 7; refine (HEnd.out _ (by exact belN _ _ rfl rfl rfl rfl)).mono ?_; rintro e w4 ⟨rfl, hw4⟩; have hB4 : Below w.heap.size w w4 := (by rw [hw4]; exact belN _ _ rfl rfl rfl rfl); have hk4 := HK.out w4 hB4; have HB4 := hide hB4; clear hw4 hB4)
      | (go_at_call 22; refine (HOp.out _ (by exact HB4.out)).mono ?_; rintro e w5 ⟨s, p, rfl, h5⟩; have H5 := hide h5; have hk5 := HK.out w5 h5.2; clear h5))
  clear c1 HK HEnd HOp hk4 HB4 hk5
  have p5 : w5.cell? ⟨p, 0, none⟩ = some (.pointer (some ⟨s, 0, none⟩)) := H5.out.1.rl.yo.cells.1
  have HA5 := hide (HAp.out w5 s p H5.out.1 H5.out.2)
  clear HAp
  go_wp2_with fail
  refine HA5.out.mono ?_
  rintro e w6 ⟨rfl, F6, K6, cnt6, h6⟩
  have H6 := hide h6
  clear h6 HA5 H5 p5
  have HL6 := hide (HLa.out w6 F6 cnt6 U2 _ H6.out.1)
  have x6 : w6.drew.cell? ⟨x.p, 0, none⟩ = some (.pointer (some ⟨x.s, 0, none⟩)) := (H6.out.1.rl.lq.po x (by simp)).cells.1
  have HS6 := hide (HSy.out w6.drew F6 cnt6 U2 _ (H6.out.1.below (belD w6)) ⟨H6.out.2.2.1.1.trans ((belD w6).mono (by have := HX.out; have := H6.out.2.2.2; omega)), H6.out.2.2.1.2.trans (O' := Zn Z w) (KO.below (belD w6)) H6.out.2.2.2 (fun i _ h => h)⟩ H6.out.2.2.2)
  clear HLa HSy
  obtain ⟨xp, hxp⟩ : ∃ z, x.p = z := ⟨_, rfl⟩
  obtain ⟨xs, hxs⟩ : ∃ z, x.s = z := ⟨_, rfl⟩
  rw [hxp] at HL6 x6
  rw [hxs] at HS6 x6
  clear hxp hxs
  go_wp2_with fail
  refine HL6.out.mono ?_
  rintro e w7 ⟨rfl, hw7⟩
  subst hw7
  clear HL6
  go_wp2_with fail
  refine HS6.out.mono ?_
  rintro e w7 ⟨rfl, F7, h7⟩
  have HC6 := hide H6.out.2.1
  have H7 := hide h7
  clear h7 HS6 x6 H6
  obtain ⟨pv, hblk, hrow⟩ := H7.out.1.rl.lq.blk
  obtain ⟨n, hn⟩ : ∃ n, (Q ++ [x]).length = n := ⟨_, rfl⟩
  have hnx := HX.out.2.2
  rw [hn] at hrow hnx
  obtain ⟨r, cap, rfl, hBr, _⟩ := hrow.form (by rw [← hn]; simp)
  have c3 : w7.cell? ⟨g, 3, none⟩ = some (.slice (some ⟨r, 0, none⟩) n cap) := by simp [World.cell?, hblk]
  have hba := below_a w7 (.cells #[.pointer (some ⟨p, 0, none⟩)] 51)
  have HR8 : Hid ((w7.alloc (.cells #[.pointer (some ⟨p, 0, none⟩)] 51)).ownsRow B 51 1 (.slice (some ⟨r, 0, none⟩) n cap) n (pcl (Q ++ [x])) ∧ B ≤ (w7.alloc (.cells #[.pointer (some ⟨p, 0, none⟩)] 51)).heap.size) := ⟨owns_below hrow hba, by have := HX.out; have := H7.out.2.2; have := hba.size; omega⟩
  have HNW : Hid (∀ j u, [Value.pointer (some ⟨p, 0, none⟩)][j]? = some u → (w7.alloc (.cells #[.pointer (some ⟨p, 0, none⟩)] 51)).cell? ((⟨w7.heap.size, 0, none⟩ : Addr).add j) = some u) := World.news_of_block (heap_alloc_new w7 _)
  have hb8 := (hba.block g (lt_of_block hblk)).trans hblk
  have HP8 : Hid (∀ w8 g8 cap8, (w7.alloc (.cells #[.pointer (some ⟨p, 0, none⟩)] 51)).grownBy w8 (Value.slice (some ⟨r, 0, none⟩) n cap).ownBlock → w8.ownsRow B 51 1 (.slice (some ⟨g8, 0, none⟩) (n + 1) cap8) (n + 1) (pcl (Q ++ [x]) ++ [.pointer (some ⟨p, 0, none⟩)]) → ((Value.slice (some ⟨r, 0, none⟩) n cap).ownBlock = some g8 ∨ g8 = (w7.alloc (.cells #[.pointer (some ⟨p, 0, none⟩)] 51)).heap.size) → (w8.cell? ⟨g, 3, none⟩ = some (.slice (some ⟨r, 0, none⟩) n cap) ∧ w8.frozen? ⟨g, 3, none⟩ = false) ∧ LZ (w8.setCell ⟨g, 3, none⟩ (.slice (some ⟨g8, 0, none⟩) (n + 1) cap8)) B Bd d g lim room cnt6 U2 F7 (Q ++ [x] ++ [⟨p, s, E, [bt], K6⟩]) (Zn Z w) ∧ Below C w (w8.setCell ⟨g, 3, none⟩ (.slice (some ⟨g8, 0, none⟩) (n + 1) cap8)) ∧ KO Z w (w8.setCell ⟨g, 3, none⟩ (.slice (some ⟨g8, 0, none⟩) (n + 1) cap8))) := fun w8 g8 cap8 hgr ho hat => by
    have hgb : w8.heap[g]? = _ := (hgr.block g (lt_of_block hb8) (fun e => by
      obtain ⟨_, cs', e'⟩ := rowBlk HR8.out.1 e.symm
      rw [hb8] at e'
      cases e')).trans hb8
    have hCw : C ≤ (w7.alloc (.cells #[.pointer (some ⟨p, 0, none⟩)] 51)).heap.size := by have := HR8.out.2; have := HX.out; omega
    have hp := (H7.out.1.below hba).push (C := C) hb8 (by rw [hn]; exact HR8.out.1) hgr (by rw [hn]; exact ho) (by
      rcases hat with h | h
      · exact .inl h.symm
      · exact .inr (by rw [← h]; rfl)) HX.out.1 hCw
    have hsz7 : w.heap.size ≤ (w7.alloc (.cells #[.pointer (some ⟨p, 0, none⟩)] 51)).heap.size := Nat.le_trans H7.out.2.2 hba.size
    refine ⟨⟨by simp [World.cell?, hgb], frozen0 hgb 3⟩, hp.1.wide (zn_in hsz7), (H7.out.2.1.1.trans (hba.mono ?_)).trans hp.2.1, ko_zn ((H7.out.2.1.2.trans (O' := Zn Z w) (KO.below hba) H7.out.2.2 (fun i _ h => h)).trans hp.2.2 hsz7 (fun i _ h => h))⟩
    have := HX.out; have := H7.out.2.2; omega
  have HLN : Hid (n + 1 ≤ maxLen ∧ (n + 1) * 8 ≤ 140737488355328) := ⟨by unfold maxLen; omega, by omega⟩
  clear hblk hrow hn hnx hBr hba hb8 H7 HX
  go_wp2_with (at_builtin; refine wpList_append_lies _ rfl _ _ 56 rfl B 51 i0 (.pointer none) 1 8 Tryz.underlying56 HI.out.1 HI.out.2.1 HI.out.2.2.1 HI.out.2.2.2 rfl (by decide) (.slice (some ⟨r, 0, none⟩) n cap) n (pcl (Q ++ [x])) rfl HR8.out.1 ⟨w7.heap.size, 0, none⟩ 1 1 [.pointer (some ⟨p, 0, none⟩)] rfl rfl HNW.out (fun u hu => by rw [List.mem_singleton] at hu; subst hu; rfl) (by decide) HLN.out.1 HLN.out.2 HR8.out.2 _ rfl ?_)
  intro g8 cap8 w8 hown hgrow hat8 _
  obtain ⟨⟨c8, f8⟩, hl8⟩ := HP8.out w8 g8 cap8 hgrow hown (hat8.imp id fun h => by rw [h]; simp)
  have H8 := hide hl8
  clear hl8 hown hgrow hat8 HP8 HNW HR8 c3
  go_wp2
  go_ret
  exact ⟨rfl, ⟨F7, p, s, K6, cnt6, H8.out.1, HC6.out⟩, H8.out.2⟩
set_option maxHeartbeats 4000000 in
theorem lappend_rollx (w : World) (B Bd C d g lim room cnt us : Nat) (F : List UInt8 → Option (List Nat × Nat)) (Q : List Prt) (x : Prt) (bt : BT) (Z : Nat → Prop) (h : LZ w B Bd d g lim room cnt us F (Q ++ [x]) Z) (hb : bt.ok) (hbase : bt.h.base = endB x.base x.l) (hT : TabF w) (hCB : C ≤ B) (hCd : C ≤ Bd) (hBw : B ≤ w.heap.size) (hlt : ¬ szs x.l < lim) (hP : TabP w) (hC4 : 3 < C) (hne : x.base < endB x.base x.l) (hend : endB x.base x.l ≤ 1099511627520) (hn : (Q ++ [x]).length ≤ 1000000) (hr : us + bt.sz ≤ room) (hcn : cnt < 256) :
    Calls Tryz.prog 8 #[.pointer (some ⟨g, 0, none⟩), .string bt.s] w fun e w' => e = .returned (.int .i64 0) ∧ (∃ F' p s K' cnt', LZ w' B Bd d g lim room cnt' (us + bt.sz) F' (Q ++ [x] ++ [⟨p, s, endB x.base x.l, [bt], K'⟩]) (Zn Z w) ∧ cnt' ≤ cnt + 1) ∧ Below C w w' ∧ KO Z w w' := by
  have HG := hide (lgiven_yes g w h.lq.cells.1)
  have HL : Hid (∀ W, Below w.heap.size w W → Calls Tryz.prog 15 #[.pointer (some ⟨g, 0, none⟩)] W fun e w' => e = .returned (.pointer (some ⟨x.p, 0, none⟩)) ∧ w' = W.drew) := fun W hW => last_ok W B d g lim F Q x (h.lq.below hW)
  have hx := h.lq.po x (by simp)
  have HSz : Hid (∀ W, Below w.heap.size w W → Calls Tryz.prog 17 #[.pointer (some ⟨x.s, 0, none⟩)] W fun e w' => e = .returned (.int .i64 (szs x.l : Nat)) ∧ w' = W) := fun W hW => by
    have := sSize_ok W B x.s d x.base (nmB x.base) _ _ (hx.sn.sg.below hW)
    rw [plAt_full] at this
    exact this
  have HA : Hid (∀ W, Below w.heap.size w W → Calls Tryz.prog 19 #[.pointer (some ⟨g, 0, none⟩), .string bt.s] W fun e w' => e = .returned (.int .i64 0) ∧ (∃ F' p s K' cnt', LZ w' B Bd d g lim room cnt' (us + bt.sz) F' (Q ++ [x] ++ [⟨p, s, endB x.base x.l, [bt], K'⟩]) (Zn Z w) ∧ cnt' ≤ cnt + 1) ∧ Below C w w' ∧ KO Z w w') := fun W hW => by
    refine (lroll_x W B Bd C d g lim room cnt us F Q x bt Z (h.below hW) hb hbase (hT.new hW) (hP.low hW (by omega)) hC4 hCB hCd (Nat.le_trans hBw hW.size) hne hend hr hcn hn).mono ?_
    rintro e w' ⟨rfl, ⟨F', p, s, K', cnt', h1, h4⟩, h2, h3⟩
    exact ⟨rfl, ⟨F', p, s, K', cnt', h1.wide (zn_up hW.size), h4⟩, (hW.mono (Nat.le_trans hCB hBw)).trans h2, (KO.below hW).trans h3 hW.size (fun i _ h => h)⟩
  obtain ⟨b, hbb⟩ : ∃ b, bt.s = b := ⟨_, rfl⟩
  rw [hbb] at HA ⊢
  obtain ⟨_, _, c2⟩ := h.lq.cells
  have p0 := hx.cells.1
  have hlti : ¬ ((szs x.l : Nat) : Int) < (lim : Int) := by omega
  obtain ⟨z, hz⟩ : ∃ z, szs x.l = z := ⟨_, rfl⟩
  obtain ⟨xp, hxp⟩ : ∃ z, x.p = z := ⟨_, rfl⟩
  obtain ⟨xs, hxs⟩ : ∃ z, x.s = z := ⟨_, rfl⟩
  obtain ⟨N, hN⟩ : ∃ z, nmB x.base = z := ⟨_, rfl⟩
  rw [hz] at HSz hlti
  rw [hxp] at HL p0
  rw [hxs] at HSz p0
  have k2 : ∀ W, Below w.heap.size w W → W.cell? ⟨g, 2, none⟩ = some (.int .i64 (lim : Nat)) ∧ W.cell? ⟨xp, 0, none⟩ = some (.pointer (some ⟨xs, 0, none⟩)) := fun W hW => ⟨cellB hW c2, cellB hW p0⟩
  have HK := hide k2
  clear h hb hbase hT hCB hCd hBw hlt hP hC4 hne hend hn hr hcn hx hz hN hbb k2
  go_enter Tryz.func8, Tryz.ntmps8
  go_wp2_with fail
  refine HG.out.mono ?_
  rintro e W ⟨rfl, hW⟩
  obtain rfl := hW.symm
  clear HG hW
  go_upto_region 3 with fail
  go_region_held_law (fun w' => w'.cell? ⟨g, 2, none⟩ = some (.int .i64 (lim : Nat)) ∧ w'.cell? ⟨xp, 0, none⟩ = some (.pointer (some ⟨xs, 0, none⟩)))
    (first | exact ⟨c2, p0⟩ | go_keep)
    (first
      | (go_at_call 15; refine (HL.out _ (by exact belN _ _ rfl rfl rfl rfl)).mono ?_; rintro e w4 ⟨rfl, hw4⟩; have hB4 : Below w.heap.size w w4 := (by rw [hw4]; exact belN _ _ rfl rfl rfl rfl); have hk4 := HK.out w4 hB4; have HB4 := hide hB4; clear hw4 hB4)
      | (go_at_call 17; refine (HSz.out _ (by exact HB4.out)).mono ?_; rintro e w5 ⟨rfl, hw5⟩; subst hw5))
  clear c2 p0 HK HSz HL hk4
  go_wp2_with fail
  refine (HA.out _ (by exact HB4.out)).mono ?_
  rintro e w7 ⟨rfl, h7⟩
  have H7 := hide h7
  clear h7 HA
  go_wp2
  go_ret
  exact ⟨rfl, H7.out⟩
end Go.Proofs.YtcjlcieheepegaaGreatDoor
namespace Go.Proofs.YtcjlcieheepegaaGreatDoor
open Go.RowKit
set_option linter.unusedVariables false
set_option maxRecDepth 20000
set_option maxRecDepth 20000

abbrev asideB : ByteArray := ⟨#[115, 101, 103, 97, 115, 105, 100, 101]⟩
theorem asideB_may : V8.May asideB := V8.mayD_ok (by decide)
theorem takeFiles_ok (w : World) (g d Bd room us : Nat) (F : List UInt8 → Option (List Nat × Nat)) (c1 : w.cell? ⟨g, 1, none⟩ = some (.pointer (some ⟨d, 0, none⟩))) (hd : V8.VD w Bd d room F 0 us) (hF : F asideB.data.toList = none) :
    Calls Tryz.prog 23 #[.pointer (some ⟨g, 0, none⟩)] w fun e w' => e = .returned (.tuple #[]) ∧ Below w.heap.size w w' := by
  have HR : Hid (Calls Tryz.prog 37 #[.pointer (some ⟨d, 0, none⟩), .string ⟨#[115, 101, 103, 97, 115, 105, 100, 101]⟩] w fun e w' => e = .returned (.int .i64 3) ∧ w' = w) := V8.remove_none w Bd d room 0 us F hd asideB asideB_may hF
  have HN := hide (V8.names_nil w Bd d room us F hd)
  clear hd hF
  go_enter Tryz.func23, Tryz.ntmps23
  go_wp2_with fail
  refine HR.out.mono ?_
  rintro e W ⟨rfl, hW⟩
  obtain rfl := hW.symm
  clear hW HR
  go_wp2_with fail
  refine HN.out.mono ?_
  rintro e w1 ⟨rfl, hb1⟩
  have H1 := hide hb1
  clear hb1 HN
  go_wp2
  refine wp_loop_rounds 1 ?_
  rw [rounds_succ]
  go_wp2
  go_end0
  exact ⟨rfl, H1.out⟩
set_option maxHeartbeats 2000000 in
theorem lopen_ok (w : World) (d Bd room lim : Nat) (hd : V8.VD w Bd d room (fun _ => none) 0 0) (hl1 : 1 ≤ lim) (hl2 : lim ≤ 16777216) (hP : TabP w) :
    Calls Tryz.prog 11 #[.pointer (some ⟨d, 0, none⟩), .int .i64 (lim : Nat)] w fun e w' => ∃ g x, e = .returned (.tuple #[.pointer (some ⟨g, 0, none⟩), .int .i64 0]) ∧ LG w' w.heap.size Bd d g lim room 0 0 (fun _ => none) [x] ∧ x.l = [] ∧ x.base = 0 ∧ Below w.heap.size w w' := by
  have HO : Hid (Calls Tryz.prog 22 #[.pointer (some ⟨d, 0, none⟩), .int .i64 0] w fun e w' => ∃ s p, e = .returned (.tuple #[.pointer (some ⟨p, 0, none⟩), .int .i64 0]) ∧ w'.heap[p]? = some (.cells #[.pointer (some ⟨s, 0, none⟩), .string (nmB 0)] 55 (0, 0)) ∧ SG w' w.heap.size s d (nmB 0) 0 [] ⟨0, 0, 0⟩ ∧ w.heap.size ≤ p ∧ Below w.heap.size w w') := openPart_ok w d 0 Bd room 0 0 (fun _ => none) hd (by decide) rfl hP
  have HD := hide hd
  have h1 : ¬ (lim : Int) < 1 := by omega
  have h2 : ¬ (16777216 : Int) < (lim : Int) := by omega
  clear hd hl1 hl2 hP
  go_enter Tryz.func11, Tryz.ntmps11
  go_wp2_with fail
  refine HO.out.mono ?_
  rintro e w1 ⟨s, p, rfl, hp, hsg, hlo, hb1⟩
  have H1 := hide (And.intro hp (And.intro hsg (And.intro hlo hb1)))
  clear hp hsg hlo hb1 HO
  obtain ⟨U, hU⟩ : ∃ U, w1.heap.size = U := ⟨_, rfl⟩
  go_upto_region 7 with fail
  obtain ⟨W2, hW2⟩ : ∃ W2, ((w1.alloc (.cells #[.pointer (some ⟨p, 0, none⟩)] 51)).alloc (.cells #[.pointer none, .pointer (some ⟨d, 0, none⟩), .int .i64 (lim : Nat), .slice (some ⟨U, 0, none⟩) 1 1] 58)) = W2 := ⟨_, rfl⟩
  rw [hW2]
  have hs1 : (w1.alloc (.cells #[.pointer (some ⟨p, 0, none⟩)] 51)).heap.size = U + 1 := by rw [← hU]; simp
  have hb12 : Below w1.heap.size w1 W2 := by
    rw [← hW2]
    exact (below_a w1 _).alloc (by rw [hs1]; omega) _
  have hg2 : W2.heap[U + 1]? = some (.cells #[.pointer none, .pointer (some ⟨d, 0, none⟩), .int .i64 (lim : Nat), .slice (some ⟨U, 0, none⟩) 1 1] 58 (0, 0)) := by
    rw [← hW2, ← hs1]; exact heap_alloc_new _ _
  have hr2 : W2.heap[U]? = some (.cells #[.pointer (some ⟨p, 0, none⟩)] 51 (0, 0)) := by
    rw [← hW2]
    have := (below_a (w1.alloc (.cells #[.pointer (some ⟨p, 0, none⟩)] 51)) (.cells #[.pointer none, .pointer (some ⟨d, 0, none⟩), .int .i64 (lim : Nat), .slice (some ⟨U, 0, none⟩) 1 1] 58)).block U (by rw [hs1]; omega)
    rw [this, ← hU]
    exact heap_alloc_new _ _
  have c0 : W2.cell? ⟨U + 1, 0, none⟩ = some (.pointer none) := by simp [World.cell?, hg2]
  have f0 : W2.frozen? ⟨U + 1, 0, none⟩ = false := frozen0 hg2 0
  have H3 : Hid ((W2.setCell ⟨U + 1, 0, none⟩ (.pointer (some ⟨U + 1, 0, none⟩))).heap[U + 1]? = some (.cells #[.pointer (some ⟨U + 1, 0, none⟩), .pointer (some ⟨d, 0, none⟩), .int .i64 (lim : Nat), .slice (some ⟨U, 0, none⟩) 1 1] 58 (0, 0)) ∧ (W2.setCell ⟨U + 1, 0, none⟩ (.pointer (some ⟨U + 1, 0, none⟩))).heap[U]? = some (.cells #[.pointer (some ⟨p, 0, none⟩)] 51 (0, 0)) ∧ Below w1.heap.size w1 (W2.setCell ⟨U + 1, 0, none⟩ (.pointer (some ⟨U + 1, 0, none⟩)))) :=
    ⟨block_set hg2, (Below.heap_setCell _ _ _ _ (by simp)).trans hr2, hb12.trans (below_set W2 _ (by rw [hU]; omega))⟩
  clear hW2 hs1 hb12 hg2 hr2
  go_upto_region 8 with fail
  clear c0 f0
  generalize (W2.setCell ⟨U + 1, 0, none⟩ (.pointer (some ⟨U + 1, 0, none⟩))) = W3 at H3
  have c1 : W3.cell? ⟨U + 1, 1, none⟩ = some (.pointer (some ⟨d, 0, none⟩)) := by simp [World.cell?, H3.out.1]
  have hbw := H1.out.2.2.2.trans (H3.out.2.2.mono H1.out.2.2.2.size)
  have hd3 := HD.out.below hbw
  have HT := hide (takeFiles_ok W3 (U + 1) d Bd room 0 (fun _ => none) c1 hd3 rfl)
  have H4 : Hid (LG W3 w.heap.size Bd d (U + 1) lim room 0 0 (fun _ => none) [⟨p, s, 0, [], []⟩] ∧ Below w.heap.size w W3) := by
    have hpb := (H3.out.2.2.block p (lt_of_block H1.out.1)).trans H1.out.1
    have hUw : w.heap.size ≤ U := by rw [← hU]; exact H1.out.2.2.2.size
    refine ⟨⟨⟨⟨.slice (some ⟨U, 0, none⟩) 1 1, H3.out.1, rfl, .inr ⟨U, 1, _, rfl, hUw, H3.out.2.1, Nat.le_refl _, by decide, rfl, rfl⟩⟩, fun x hx => ?_, List.pairwise_singleton _ _, by omega⟩, hd3, fun t ht => absurd rfl ht⟩, hbw⟩
    rw [List.mem_singleton] at hx
    subst hx
    exact ⟨hpb, ⟨H1.out.2.1.below H3.out.2.2, nmB_may 0 (by decide), .inl ⟨rfl, rfl⟩, trivial, (fun y hy => by cases hy), ⟨List.Pairwise.nil, (fun k hk => by cases hk), fun h0 => absurd rfl h0⟩⟩⟩
  clear c1 hbw hd3 H3 H1 HD
  go_wp2_with fail
  refine HT.out.mono ?_
  rintro e w4 ⟨rfl, hb4⟩
  have H5 : Hid (LG w4 w.heap.size Bd d (U + 1) lim room 0 0 (fun _ => none) [⟨p, s, 0, [], []⟩] ∧ Below w.heap.size w w4) := ⟨H4.out.1.below hb4, H4.out.2.trans (hb4.mono H4.out.2.size)⟩
  clear hb4 H4 HT
  go_wp2
  go_ret2
  exact ⟨U + 1, ⟨p, s, 0, [], []⟩, rfl, H5.out.1, rfl, rfl, H5.out.2⟩
end Go.Proofs.YtcjlcieheepegaaGreatDoor
