/-
  Esame.
-/
import Derived.Test.YtfmdnaagdhpcpaaQ25

/-
  same: a disk tells what the document's own one tells.
-/
namespace Go.Proofs.Ytfmdnaagdhpcpaa
open Go.RowKit Go.Proofs.Lys Go.Maps Go.Shelf
set_option linter.unusedVariables false

section
variable {w0 W W' : World} {A B R : Nat} {ma mb mr : DModel}
theorem Tri.up (h : Tri w0 W A B R ma mb mr) : Up w0 W A ma := by
  obtain ⟨ca, Oa, cb, Ob, cr, Or, h1, h2, h3, h4, h5, h6, h7, h8, h9, h10, h11, h12, h13⟩ := h
  exact ⟨ca, Oa, h1, h4, h7, h8⟩
theorem Tri.rat (h : Tri w0 W A B R ma mb mr) : ∃ c O, c.d = R ∧ RAt W c O mr := by
  obtain ⟨ca, Oa, cb, Ob, cr, Or, h1, h2, h3, h4, h5, h6, h7, h8, h9, h10, h11, h12, h13⟩ := h
  exact ⟨cr, Or, h3, h6⟩
end
theorem str_cells {w : World} {b o n c : Nat} {l : List (List UInt8)} (h : SrcOf w (.slice (some ⟨b, o, none⟩) n c) (l.map nmV)) : ∀ j (hj : j < l.length), w.cell? ⟨b, o + j, none⟩ = some (.string ⟨l[j].toArray⟩) := by
  intro j hj
  rcases h with ⟨h, _⟩ | ⟨a, c', h, hc⟩
  · cases h
  · cases h
    rw [← add_none]
    exact hc j _ (by rw [List.getElem?_map, List.getElem?_eq_getElem hj]; rfl)
theorem str_conv {w : World} {v : Value} {bs : List UInt8} (h : SrcOf w v (bs.map bV)) : (convert 29 9 v).run Try.prog w = .ok (.string ⟨bs.toArray⟩) w := by
  rcases h with ⟨rfl, e⟩ | ⟨a, c, rfl, hc⟩
  · have : bs = [] := List.map_eq_nil_iff.1 e
    subst this
    exact run_convert_bytes_nil (P := Try.prog) w 29 5 Try.underlying29 Try.underlying5 0 0 9 Try.underlying9
  · rw [List.length_map]
    refine run_convert_bytes_back (P := Try.prog) w 29 9 5 a c bs Try.underlying29 Try.underlying5 Try.underlying9 (fun j hj => ?_)
    exact hc j _ (by rw [List.getElem?_map, List.getElem?_eq_getElem hj]; rfl)

theorem own_max {w : World} {base : Nat} {e : TypeId} {v : Value} {n : Nat} {xs : List Value} (h : w.ownsRow base e 1 v n xs) : n ≤ 9223372036854775807 := by
  rcases h.2 with ⟨_, h⟩ | ⟨_, cap, _, _, _, _, h1, h2, _⟩
  · omega
  · unfold maxLen at h2
    omega
theorem xor_byte3 (y : UInt8) : bits .xor .u8 (y.toNat : Int) 255 = (((UInt8.ofNat (y.toNat ^^^ 255)).toNat : Nat) : Int) := by
  rw [show (255 : Int) = ((255 : Nat) : Int) from rfl, u8_xor_nat _ _ (UInt8.toNat_lt y) (by decide), UInt8.toNat_ofNat', Nat.mod_eq_of_lt (Nat.xor_lt_two_pow (n := 8) (UInt8.toNat_lt y) (by decide))]
theorem own_turn3 {w : World} {base g n cap k : Nat} {ys : List UInt8} (h : w.ownsRow base 5 1 (.slice (some ⟨g, 0, none⟩) n cap) n (ys.map bV)) (hk : k < ys.length) :
    w.cell? ⟨g, k, none⟩ = some (.int .u8 ((ys[k].toNat : Nat) : Int)) ∧ w.frozen? ⟨g, k, none⟩ = false ∧
    (w.setCell ⟨g, k, none⟩ (.int .u8 (((UInt8.ofNat (ys[k].toNat ^^^ 255)).toNat : Nat) : Int))).ownsRow base 5 1 (.slice (some ⟨g, 0, none⟩) n cap) n ((ys.set k (UInt8.ofNat (ys[k].toNat ^^^ 255))).map bV) := by
  have hn := own_len h
  rw [List.length_map] at hn
  refine ⟨?_, h.frozenAt k, ?_⟩
  · rw [h.cellAt k (by omega), List.getElem?_map, List.getElem?_eq_getElem hk]
    rfl
  · rw [List.map_set]
    exact (h.stored k _).1

/-- The four questions ahead of the names. -/
structure Asks (W1 : World) (A R : Nat) (bo : Bool) (V St : Int) : Prop where
  on : ∀ X, Kept W1 X → Calls Try.prog 45 #[.pointer (some ⟨A, 0, none⟩)] X fun e w' => e = .returned (.bool bo) ∧ w' = X
  ron : ∀ X, Kept W1 X → Calls Try.prog 46 #[.pointer (some ⟨R, 0, none⟩)] X fun e w' => e = .returned (.bool bo) ∧ w' = X
  room : ∀ X, Kept W1 X → Calls Try.prog 25 #[.pointer (some ⟨A, 0, none⟩)] X fun e w' => e = .returned (.int .i64 V) ∧ Kept X w'
  rroom : ∀ X, Kept W1 X → Calls Try.prog 47 #[.pointer (some ⟨R, 0, none⟩)] X fun e w' => e = .returned (.int .i64 V) ∧ Kept X w'
  steps : ∀ X, Kept W1 X → Calls Try.prog 26 #[.pointer (some ⟨A, 0, none⟩)] X fun e w' => e = .returned (.int .i64 St) ∧ w' = X
  cell : ∀ X, Kept W1 X → X.cell? ⟨R, 8, none⟩ = some (.int .i64 St)
theorem asks_any {w0 W : World} {A B R : Nat} {m mo : DModel} (h : Tri w0 W A B R m mo m) (f : Fits m) (hf : m.few) (hd : m.dir.length ≤ 10000) : Asks W A R (!m.off) ((m.quota : Int) - (m.used : Int)) (m.steps : Int) := by
  refine ⟨fun X k => up_on (h.stay k).up, fun X k => ?_, fun X k => ?_, fun X k => ?_, fun X k => up_steps (h.stay k).up, fun X k => ?_⟩
  · obtain ⟨c, O, rfl, hR⟩ := (h.stay k).rat
    exact ron_any hR
  · refine (up_room (h.stay k).up hf).mono ?_
    rintro e w' ⟨rfl, hk, _⟩
    exact ⟨rfl, hk⟩
  · obtain ⟨c, O, rfl, hR⟩ := (h.stay k).rat
    exact rroom_any hR hd f.dir_nodup
  · obtain ⟨c, O, rfl, hR⟩ := (h.stay k).rat
    exact hR.cells.cell 8 rfl
theorem reads_any {w0 W : World} {A B R : Nat} {m mo : DModel} (h : Tri w0 W A B R m mo m) (hd : m.dir.length ≤ 10000) (n : List UInt8) (hn : n.length ≤ maxLen) :
    (∀ X, Kept W X → Calls Try.prog 27 #[.pointer (some ⟨A, 0, none⟩), .string ⟨n.toArray⟩] X fun e w' => ∃ v, e = .returned (.tuple #[v, .int .i64 ((m.read n).1 : Int)]) ∧ w'.ownsRow X.heap.size 5 1 v (m.read n).2.length ((m.read n).2.map bV) ∧ Kept X w') ∧
    (∀ X, Kept W X → Calls Try.prog 48 #[.pointer (some ⟨R, 0, none⟩), .string ⟨n.toArray⟩] X fun e w' => ∃ v, e = .returned (.tuple #[v, .int .i64 ((m.read n).1 : Int)]) ∧ w'.ownsRow X.heap.size 5 1 v (m.read n).2.length ((m.read n).2.map bV) ∧ Kept X w') := by
  refine ⟨fun X k => ?_, fun X k => ?_⟩
  · refine (up_read (h.stay k).up (s := ⟨n.toArray⟩) hn).mono ?_
    rintro e w' ⟨v, rfl, ho, hk, _⟩
    exact ⟨v, rfl, ho, hk⟩
  · obtain ⟨c, O, rfl, hR⟩ := (h.stay k).rat
    exact rread_any hR hd n

set_option maxRecDepth 100000 in
set_option maxHeartbeats 6400000 in
theorem same3_any {w0 W : World} {A B R : Nat} {m mo : DModel} (h : Tri w0 W A B R m mo m) (f : Fits m) (hf : m.few) (hd : m.dir.length ≤ 10000) (hN : ∀ p ∈ m.dir, p.1.length ≤ maxLen) :
    Calls Try.prog 19 #[.pointer (some ⟨A, 0, none⟩), .pointer (some ⟨R, 0, none⟩)] W fun e w' => e = .returned (.bool true) ∧ Kept W w' := by
  have HL := Hid.mk (up_list h.up hf)
  have HH := Hid.mk h
  obtain ⟨L, hL⟩ : ∃ L, m.list.length = L := ⟨_, rfl⟩
  have hLd : L ≤ 10000 := by
    rw [← hL]
    unfold DModel.list
    split
    · simp
    · rw [List.length_map]
      exact hd
  have HN : Hid (∀ s ∈ m.list, s.length ≤ maxLen) := fun s hs => by
    unfold DModel.list at hs
    split at hs
    · cases hs
    · obtain ⟨p, hp, rfl⟩ := List.mem_map.1 hs
      exact hN p hp
  have HF := Hid.mk f
  have HLE := Hid.mk hL
  have HFW := Hid.mk hf
  have HD := Hid.mk hd
  clear h f hf hN hL hd
  go_enter Try.func19, Try.ntmps19
  go_wp2_with fail
  refine HL.out.mono ?_
  rintro e w1 ⟨v1, rfl, ho1, k1, _⟩
  have hrl : Hid (Calls Try.prog 44 #[.pointer (some ⟨R, 0, none⟩)] w1 fun e w' => ∃ v, e = .returned v ∧ w'.ownsRow w1.heap.size 9 1 v m.list.length (m.list.map nmV) ∧ Kept w1 w') := by
    obtain ⟨c, O, rfl, hR⟩ := (HH.out.stay k1).rat
    exact rlist_any hR HD.out
  go_wp2_with fail
  refine hrl.out.mono ?_
  rintro e w2 ⟨v2, rfl, ho2, k2⟩
  have kk : Kept W w2 := k1.trans k2 (fun _ _ f => f)
  have hq := asks_any (HH.out.stay kk) HF.out HFW.out HD.out
  generalize (!m.off) = bo at hq
  generalize (m.quota : Int) - (m.used : Int) = V at hq
  generalize (m.steps : Int) = St at hq
  have HQ := Hid.mk hq
  have HO1 : Hid (w2.ownsRow W.heap.size 9 1 v1 m.list.length (m.list.map nmV)) := own_only ho1 k2 (fun _ _ f => f)
  have HO2 := Hid.mk ho2
  have HT2 := Hid.mk (HH.out.stay kk)
  have HK2 := Hid.mk kk
  obtain ⟨a1, c1, e1⟩ := own_slice ho1
  obtain ⟨a2, c2, e2⟩ := own_slice ho2
  rw [HLE.out] at e1 e2 HO1 HO2
  subst e1
  subst e2
  clear ho1 ho2 k1 k2 kk hq HL hrl HH
  have hx8 := HQ.out.cell
  go_wp2_with fail
  go_region_held3 (fun w' => Kept w2 w' ∧ w'.cell? ⟨R, 8, none⟩ = some (.int .i64 St))
    (first | exact ⟨hkb, hx8 _ hkb⟩ | exact ⟨hka, hx8 _ hka⟩ | exact ⟨(Only.refl _ _).drew, hx8 _ (Only.refl _ _).drew⟩)
    ((first
      | (go_at_call 45; refine (HQ.out.on _ (by first | exact hkb | exact hka | exact (Only.refl _ _).drew)).mono ?_; rintro e w' ⟨rfl, hw⟩; subst hw)
      | (go_at_call 46; refine (HQ.out.ron _ (by first | exact hkb | exact hka | exact (Only.refl _ _).drew)).mono ?_; rintro e w' ⟨rfl, hw⟩; subst hw)
      | (go_at_call 26; refine (HQ.out.steps _ (by first | exact hkb | exact hka | exact (Only.refl _ _).drew)).mono ?_; rintro e w' ⟨rfl, hw⟩; subst hw)
      | (go_at_call 25; refine (HQ.out.room _ (Only.refl _ _).drew).mono ?_; rintro e wa ⟨rfl, hka'⟩; have hka : Kept w2 wa := (Only.refl (fun _ => False) w2).drew.trans hka' (fun _ _ f => f))
      | (go_at_call 47; refine (HQ.out.rroom _ hka).mono ?_; rintro e wb ⟨rfl, hkb'⟩; have hkb : Kept w2 wb := hka.trans hkb' (fun _ _ f => f))))
  clear hx8
  obtain ⟨hkb2, _⟩ := ‹Kept w2 _ ∧ World.cell? _ _ = _›
  have HKB := Hid.mk hkb2
  clear hkb2 HQ
  go_wp2_with fail
  go_loopw [7] (fun i wr => ∃ k : Nat, k ≤ L ∧ i = .int .i64 (k : Int) ∧ Kept w2 wr) (fun i _ => L - (intOf i).toNat)
  case atStart => exact ⟨0, by omega, rfl, HKB.out⟩
  case round =>
    obtain ⟨k, hk, rfl, kr⟩ := hrel
    by_cases hlt : k < L
    · obtain ⟨g1, d1, e1⟩ := own_some HO1.out (by omega)
      obtain ⟨g2, d2, e2⟩ := own_some HO2.out (by omega)
      cases e1
      cases e2
      have hkl : k < m.list.length := by have := HLE.out; omega
      have HC1 : Hid (∀ X, Kept w2 X → X.cell? ⟨g1, k, none⟩ = some (.string ⟨(m.list[k]).toArray⟩)) := fun X kX => by
        have := str_cells (own_src (own_only HO1.out kX (fun _ _ f => f))) k hkl
        rw [Nat.zero_add] at this
        exact this
      have HC2 : Hid (∀ X, Kept w2 X → X.cell? ⟨g2, k, none⟩ = some (.string ⟨(m.list[k]).toArray⟩)) := fun X kX => by
        have := str_cells (own_src (own_only HO2.out kX (fun _ _ f => f))) k hkl
        rw [Nat.zero_add] at this
        exact this
      have hrd := reads_any HT2.out HD.out m.list[k] (HN.out _ (List.getElem_mem hkl))
      generalize m.list[k] = s at HC1 HC2 hrd
      generalize (((m.read s).1 : Nat) : Int) = E at hrd
      generalize (m.read s).2 = bs at hrd
      have HRD := Hid.mk hrd
      generalize (⟨s.toArray⟩ : ByteArray) = st at HC1 HC2 HRD
      have z1 := HC1.out wr kr
      have z2 := HC2.out wr kr
      clear hrd hkl
      go_wp2_with fail
      go_quiet (fail)
      have krq := Kept.drewN' kr nq
      have HKQ := Hid.mk krq
      have y1 := HC1.out _ krq
      clear z1 z2 kr krq
      generalize wr.drewN nq = wq at HKQ y1 ⊢
      go_wp2_with fail
      refine (HRD.out.1 _ HKQ.out).mono ?_
      rintro e w3 ⟨v3, rfl, ho3, k3⟩
      have k3' : Kept w2 w3 := HKQ.out.trans k3 (fun _ _ f => f)
      have y2 := HC2.out _ k3'
      have HK3 := Hid.mk k3'
      have HO3 := Hid.mk ho3
      clear ho3 k3' k3 y1
      go_wp2_with fail
      refine (HRD.out.2 _ HK3.out).mono ?_
      rintro e w4 ⟨v4, rfl, ho4, k4⟩
      have ho34 := own_only HO3.out k4 (fun _ _ f => f)
      have q1 := str_conv (own_src ho34)
      have q2 := str_conv (own_src ho4)
      obtain ⟨C, hC⟩ : ∃ C, bs.length = C := ⟨_, rfl⟩
      obtain ⟨a3, c3, e3⟩ := own_slice ho34
      obtain ⟨a4, c4, e4⟩ := own_slice ho4
      subst e3
      subst e4
      rw [hC] at q1 q2 ho34 ⊢
      generalize (⟨bs.toArray⟩ : ByteArray) = sb at q1 q2
      have HK4 : Hid (Kept w2 w4) := HK3.out.trans k4 (fun _ _ f => f)
      have HO34 := Hid.mk ho34
      have HCC := Hid.mk hC
      have hszq : w2.heap.size ≤ wq.heap.size := HKQ.out.size
      clear ho4 ho34 k4 y2 hC
      go_wp2_with (go_at_call 11; refine (num3_any _ _).mono ?_; rintro e w' ⟨rfl, hw⟩; replace hw := hw.symm; subst hw)
      have hCm := own_max HO34.out
      have hsz2 := HK2.out.size
      go_loopw [12] (fun i wr => ∃ (q : Nat) (ys : List UInt8), q ≤ C ∧ ys.length = C ∧ i = .int .i64 (q : Int) ∧ wr.ownsRow wq.heap.size 5 1 (.slice a3 C c3) C (ys.map bV) ∧ Kept w2 wr) (fun i _ => C - (intOf i).toNat)
      case atStart => exact ⟨0, bs, by omega, HCC.out, rfl, HO34.out, HK4.out⟩
      case round =>
        obtain ⟨q, ys, hq, hyl, rfl, hown, hon⟩ := hrel
        by_cases hltq : q < C
        · obtain ⟨gg, capp, hg⟩ := own_some hown (by omega)
          cases hg
          have hky : q < ys.length := by omega
          obtain ⟨t1, t2, t3⟩ := own_turn3 hown hky
          have hx := xor_byte3 ys[q]
          obtain ⟨y, hy⟩ : ∃ y : Nat, ys[q].toNat = y := ⟨_, rfl⟩
          obtain ⟨z, hz⟩ : ∃ z : Nat, (UInt8.ofNat (ys[q].toNat ^^^ 255)).toNat = z := ⟨_, rfl⟩
          have hge := (hown.lt gg rfl).1
          have HY : Hid ((ys.set q (UInt8.ofNat (ys[q].toNat ^^^ 255))).length = C) := by show _ = _; rw [List.length_set]; exact hyl
          rw [hz] at t3
          have HT := Hid.mk t3
          rw [hy] at t1 hx
          rw [hy] at hz
          rw [hz] at hx
          have HNN : Hid (Kept w2 (wr.setCell ⟨gg, q, none⟩ (.int .u8 (z : Int)))) := hon.setCell (fun h => absurd h (by show ¬ gg < w2.heap.size; omega)) _
          clear hown hon t3 hz hy hyl
          go_wp2_with fail
          go_roundw
          case rel => exact ⟨q + 1, _, by omega, HY.out, by go_num, HT.out, HNN.out⟩
          case measure => simp [intOf]; omega
        · have HON := Hid.mk hon
          clear hown hon hyl
          go_wp2_with fail
          go_roundw
          case rel => exact ⟨k + 1, by omega, by go_num, HON.out⟩
          case measure => simp [intOf]; omega
    · have hrd := reads_any HT2.out HD.out [110, 111, 32, 115, 117, 99, 104, 32, 102, 105, 108, 101] (by decide)
      generalize (((m.read [110, 111, 32, 115, 117, 99, 104, 32, 102, 105, 108, 101]).1 : Nat) : Int) = E at hrd
      have HRD := Hid.mk hrd
      have HKR := Hid.mk kr
      clear hrd kr
      go_wp2_with fail
      refine (HRD.out.1 _ HKR.out).mono ?_
      rintro e w3 ⟨v3, rfl, ho3, k3⟩
      have HK3 : Hid (Kept w2 w3) := HKR.out.trans k3 (fun _ _ f => f)
      clear ho3 k3
      go_wp2_with fail
      refine (HRD.out.2 _ HK3.out).mono ?_
      rintro e w4 ⟨v4, rfl, ho4, k4⟩
      have HK4 : Hid (Kept W w4) := (HK2.out.trans HK3.out (fun _ _ f => f)).trans k4 (fun _ _ f => f)
      clear ho4 k4
      go_wp2_with (go_at_call 11; refine (num3_any _ _).mono ?_; rintro e w' ⟨rfl, hw⟩; replace hw := hw.symm; subst hw)
      go_ret
      exact ⟨by simp, HK4.out⟩
end Go.Proofs.Ytfmdnaagdhpcpaa
