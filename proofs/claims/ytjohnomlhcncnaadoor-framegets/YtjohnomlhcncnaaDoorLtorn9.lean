/-
  The law FrameTorn.
-/
import Derived.Test.YtjohnomlhcncnaaDoorGget
namespace Go.Proofs.YtjohnomlhcncnaaDoor.G
open Go.RowKit Go.Proofs.Lys
set_option linter.unusedVariables false

/-- A byte of a row turned by another one. -/
theorem own_xor {w : World} {base g n cap k : Nat} {ys : List UInt8} (h : w.ownsRow base 5 1 (.slice (some ⟨g, 0, none⟩) n cap) n (ys.map bV)) (hk : k < ys.length) (by_ : Nat) (hb : by_ < 256) :
    ∃ y z : Nat, y = ys[k].toNat ∧ y < 256 ∧ w.cell? ⟨g, k, none⟩ = some (.int .u8 (y : Int)) ∧ w.frozen? ⟨g, k, none⟩ = false ∧ bits .xor .u8 (y : Int) (by_ : Int) = (z : Int) ∧ z = (UInt8.ofNat (y ^^^ by_)).toNat ∧
    (w.setCell ⟨g, k, none⟩ (.int .u8 (z : Int))).ownsRow base 5 1 (.slice (some ⟨g, 0, none⟩) n cap) n ((ys.set k (UInt8.ofNat (y ^^^ by_))).map bV) := by
  have hn := own_len h
  rw [List.length_map] at hn
  have hy : ys[k].toNat < 256 := byte_lt _
  have hx : ys[k].toNat ^^^ by_ < 256 := Nat.xor_lt_two_pow (n := 8) hy hb
  refine ⟨ys[k].toNat, ys[k].toNat ^^^ by_, rfl, hy, ?_, h.frozenAt k, u8_xor_nat _ _ hy hb, (ofNat_toNat hx).symm, ?_⟩
  · rw [h.cellAt k (by omega), List.getElem?_map, List.getElem?_eq_getElem hk]
    rfl
  · rw [List.map_set, bV_ofNat hx]
    exact (h.stored k _).1
theorem xor_ne {y by_ : Nat} (h : by_ ≠ 0) : y ^^^ by_ ≠ y := by
  intro e
  have h1 : y ^^^ (y ^^^ by_) = y ^^^ y := by rw [e]
  rw [← Nat.xor_assoc, Nat.xor_self, Nat.zero_xor] at h1
  exact h h1

set_option maxRecDepth 100000 in
set_option maxHeartbeats 3200000 in
theorem torn9_out (w : World) (k : Int) (v : Value) (bs : List UInt8) (cut at_ by_ : Int) (hs : BSrc w v bs) (hT : Tab w) (hout : ¬ (0 ≤ k ∧ k ≤ 255 ∧ (bs.length : Int) ≤ 3000 ∧ 0 ≤ cut ∧ 0 ≤ at_ ∧ by_ ≠ 0)) :
    Calls Tryd.prog 7 #[.int .i64 k, v, .int .i64 cut, .int .i64 at_, .int .u8 by_] w fun e w' => e = .returned (.bool true) ∧ Kept w w' := by
  obtain ⟨a, c, rfl⟩ := hs.len
  have ha := alive9_any w hT
  have hnot : ∀ (x : Bool) (w : World), (Op.unary .not (.bool x)).run Tryd.prog w = .ok (.bool (!x)) w := fun _ _ => rfl
  obtain ⟨L, hL⟩ : ∃ L, bs.length = L := ⟨_, rfl⟩
  rw [hL] at hout ⊢
  have HO := hid hout
  clear hL hs hT hout
  go_enter Tryd.func7, Tryd.ntmps7
  go_wp2_with fail
  refine ha.mono ?_
  rintro e w1 ⟨rfl, hk⟩
  have HK := hid hk
  clear ha hk
  go_wp2_with fail
  all_goals first
    | (go_ret; exact ⟨rfl, HK.out⟩)
    | (exfalso
       have hg : ((((0 ≤ k ∧ k ≤ 255) ∧ (L : Int) ≤ 3000) ∧ 0 ≤ cut) ∧ 0 ≤ at_) ∧ (by_ == 0) = false := by assumption
       have hb : by_ ≠ 0 := by intro e; rw [e] at hg; simp at hg
       exact HO.out ⟨hg.1.1.1.1.1, hg.1.1.1.1.2, hg.1.1.1.2, hg.1.1.2, hg.1.2, hb⟩)

set_option maxRecDepth 100000 in
set_option maxHeartbeats 3200000 in
theorem torn9_in (w : World) (K : Nat) (v : Value) (bs : List UInt8) (C A Y : Nat) (hs : BSrc w v bs) (hT : Tab w) (hK : K < 256) (hl : bs.length ≤ 3000) (hC : C ≤ 9223372036854775807) (hA : A ≤ 9223372036854775807) (hY : Y < 256) (hY0 : Y ≠ 0) :
    Calls Tryd.prog 7 #[.int .i64 (K : Int), v, .int .i64 (C : Int), .int .i64 (A : Int), .int .u8 (Y : Int)] w fun e w' => e = .returned (.bool true) ∧ Kept w w' := by
  obtain ⟨a, c, rfl⟩ := hs.len
  have ha := alive9_any w hT
  have hnot : ∀ (x : Bool) (w : World), (Op.unary .not (.bool x)).run Tryd.prog w = .ok (.bool (!x)) w := fun _ _ => rfl
  obtain ⟨L, hL⟩ : ∃ L, bs.length = L := ⟨_, rfl⟩
  have HL := hid hL
  have HS := hid hs
  have HT := hid hT
  rw [hL] at HS hl ⊢
  clear hL hs hT
  have hd1 : decide ((K : Int) < 0) = false := by simp
  have hd2 : decide ((255 : Int) < (K : Int)) = false := by simp; omega
  have hd3 : decide ((3000 : Int) < (L : Int)) = false := by simp; omega
  have hd4 : decide ((C : Int) < 0) = false := by simp
  have hd5 : decide ((A : Int) < 0) = false := by simp
  have hd6 : ((Y : Int) == 0) = false := by simp; omega
  go_enter Tryd.func7, Tryd.ntmps7
  go_wp2_with fail
  refine ha.mono ?_
  rintro e w1 ⟨rfl, hk⟩
  clear ha
  have hput := put_any w1 (K : Int) _ bs (HS.out.stay hk) (by rw [HL.out]; omega) (HT.out.stay hk)
  have HK1 := hid hk
  clear hk
  go_wp2_with fail
  refine hput.mono ?_
  rintro e w2 ⟨k2, u2, fs, x, rfl, hP, ho2⟩
  have hfs : fs = frameL K bs ∧ x = 0 := by
    rcases hP with ⟨h, _⟩ | ⟨_, _, h, _⟩ | ⟨_, _, _, h, h'⟩
    · exfalso; omega
    · exfalso; rw [HL.out] at h; omega
    · exact ⟨by rw [h, Int.toNat_natCast], h'⟩
  obtain ⟨hfs, rfl⟩ := hfs
  have HK2 : Hid (Kept w w2) := HK1.out.trans k2 (fun _ _ f => f)
  obtain ⟨F, hF⟩ : ∃ F, fs.length = F := ⟨_, rfl⟩
  have hF9 : F = 9 + L := by rw [← hF, hfs, frameL_len, HL.out]
  obtain ⟨q, hq⟩ : ∃ q, C % F = q := ⟨_, rfl⟩
  obtain ⟨r, hr⟩ : ∃ r, A % F = r := ⟨_, rfl⟩
  have hqF : q < F := by rw [← hq]; exact Nat.mod_lt _ (by omega)
  have hrF : r < F := by rw [← hr]; exact Nat.mod_lt _ (by omega)
  have m1 : (C : Int).tmod (F : Int) = (q : Int) := by rw [← hq]; exact (Int.ofNat_tmod C F).symm
  have m2 : (A : Int).tmod (F : Int) = (r : Int) := by rw [← hr]; exact (Int.ofNat_tmod A F).symm
  have m3 : (C : Int) % (F : Int) = (q : Int) := by rw [← hq]; exact (Int.natCast_emod C F).symm
  have m4 : (A : Int) % (F : Int) = (r : Int) := by rw [← hr]; exact (Int.natCast_emod A F).symm
  have hF0 : ((F : Int) == 0) = false := by simp; omega
  obtain ⟨pa, pc, hpre, hbp⟩ := (own_bsrc ho2).pre (hi := q) (by rw [hF]; omega)
  have hget1 := get_any w2 _ (fs.take q) hbp (by rw [List.length_take]; omega) (HT.out.stay HK2.out)
  have hN1 : readF (fs.take q) = none := by rw [hfs]; exact read_part (by rw [HL.out]; omega) (by rw [← hfs, hF]; exact hqF)
  rw [hF] at ho2
  obtain ⟨g2, c2, hu2⟩ := own_some ho2 (by omega)
  subst hu2
  have HO2 := hid ho2
  have HFS : Hid (fs = frameL K bs ∧ fs.length = F) := ⟨hfs, hF⟩
  have HN1 := hid hN1
  have HF9 := hid hF9
  have hFl : 9 ≤ F := by omega
  have hFu : F ≤ 3009 := by omega
  clear hput hP ho2 k2 hfs hF hq hr hbp hN1 hF9
  go_wp2_with (go_at_call 13; refine (num9_any _ _).mono ?_; rintro e w' ⟨rfl, hw⟩; replace hw := hw.symm; subst hw)
  refine hget1.mono ?_
  rintro e w3 ⟨k3, kk, u3, p3, n3, x3, rfl, hG, ho3⟩
  have hx3 : x3 = 5 := by
    rcases hG with ⟨_, _, _, _, h⟩ | ⟨_, _, _, h, _⟩
    · exact h
    · rw [HN1.out] at h; cases h
  subst hx3
  have HK3 : Hid (Kept w w3) := HK2.out.trans k3 (fun _ _ f => f)
  have h23 := own_only HO2.out k3 (fun _ _ f => f)
  obtain ⟨a4, c4, w4, Hr4, ho4, hon4⟩ := row_app (w := w3) (base := w3.heap.size) (v := .slice none 0 0) (xs := []) (ys := fs) (World.ownsRow_nil _ _ _ _) (Nat.le_refl _) (own_src h23) (by rw [HFS.out.2]; simp; omega)
  rw [List.nil_append, List.length_nil, Nat.zero_add, HFS.out.2] at ho4
  rw [List.length_nil, Nat.zero_add, HFS.out.2] at Hr4
  have k34 : Kept w3 w4 := hon4.mono (fun j _ e => by cases e)
  obtain ⟨g4, c4', e4⟩ := own_some ho4 (by omega)
  cases e4
  obtain ⟨y, z, hy, hyl, t1, t2, t3, hz, t4⟩ := own_xor ho4 (k := r) (by rw [HFS.out.2]; omega) Y hY
  have hge := (ho4.lt g4 rfl).1
  have k45 : ∀ v', Kept w3 (w4.setCell ⟨g4, r, none⟩ v') := fun v' => k34.setCell (fun h => absurd h (by show ¬ g4 < w3.heap.size; omega)) v'
  have HK5 : Hid (Kept w (w4.setCell ⟨g4, r, none⟩ (.int .u8 (z : Int)))) := HK3.out.trans (k45 _) (fun _ _ f => f)
  have hget2 := get_any (w4.setCell ⟨g4, r, none⟩ (.int .u8 (z : Int))) (.slice (some ⟨g4, 0, none⟩) F c4) (fs.set r (UInt8.ofNat (y ^^^ Y))) (own_bsrc (by rw [List.length_set, HFS.out.2]; exact t4)) (by rw [List.length_set, HFS.out.2]; omega) (HT.out.stay HK5.out)
  have HN2 : Hid (r = 0 ∨ 5 ≤ r → readF (fs.set r (UInt8.ofNat (y ^^^ Y))) = none) := by
    intro hr2
    have hne : UInt8.ofNat (y ^^^ Y) ≠ fs[r]'(by rw [HFS.out.2]; omega) := fun e => by
      have h1 := congrArg UInt8.toNat e
      rw [ofNat_toNat (Nat.xor_lt_two_pow (n := 8) hyl hY), ← hy] at h1
      exact xor_ne hY0 h1
    have hfs := HFS.out.1
    subst hfs
    exact read_turned hK (by rw [HL.out]; omega) (by rw [HFS.out.2]; omega) hr2 hne
  clear hget1 hG ho3 k3 h23 ho4 hon4 k34 k45 hy hz t4
  go_wp2_with (at_builtin; refine wpList_append_run rfl _ _ _ rfl rfl rfl Hr4 ?_)
  refine hget2.mono ?_
  rintro e w6 ⟨k6, kk6, u6, p6, n6, x6, rfl, hG, ho6⟩
  have HX : Hid (r = 0 ∨ 5 ≤ r → x6 = 5) := by
    intro h
    rcases hG with ⟨_, _, _, _, h'⟩ | ⟨_, _, _, h', _⟩
    · exact h'
    · rw [HN2.out h] at h'; cases h'
  have HK6 : Hid (Kept w w6) := HK5.out.trans k6 (fun _ _ f => f)
  clear hget2 hG ho6 k6 t1 t2 t3 Hr4
  by_cases hr1 : 1 ≤ r
  · by_cases hr4 : r ≤ 4
    · go_wp2_with (go_at_call 13; refine (num9_any _ _).mono ?_; rintro e w' ⟨rfl, hw⟩; replace hw := hw.symm; subst hw)
      go_ret
      exact ⟨rfl, HK6.out⟩
    · obtain rfl := HX.out (.inr (by omega))
      have hd7 : decide ((r : Int) ≤ 4) = false := by simp; omega
      go_wp2_with (go_at_call 13; refine (num9_any _ _).mono ?_; rintro e w' ⟨rfl, hw⟩; replace hw := hw.symm; subst hw)
      go_ret
      exact ⟨rfl, HK6.out⟩
  · obtain rfl := HX.out (.inl (by omega))
    have hd7 : decide ((1 : Int) ≤ (r : Int)) = false := by simp; omega
    go_wp2_with (go_at_call 13; refine (num9_any _ _).mono ?_; rintro e w' ⟨rfl, hw⟩; replace hw := hw.symm; subst hw)
    go_ret
    exact ⟨rfl, HK6.out⟩

theorem torn9_walk (w : World) (k : Int) (v : Value) (bs : List UInt8) (cut at_ by_ : Int) (hs : BSrc w v bs) (hT : Tab w) (hc : cut ≤ 9223372036854775807) (hat : at_ ≤ 9223372036854775807) (hb0 : 0 ≤ by_) (hb1 : by_ < 256) :
    Calls Tryd.prog 7 #[.int .i64 k, v, .int .i64 cut, .int .i64 at_, .int .u8 by_] w fun e w' => e = .returned (.bool true) ∧ Kept w w' := by
  by_cases h : 0 ≤ k ∧ k ≤ 255 ∧ (bs.length : Int) ≤ 3000 ∧ 0 ≤ cut ∧ 0 ≤ at_ ∧ by_ ≠ 0
  · obtain ⟨h1, h2, h3, h4, h5, h6⟩ := h
    obtain ⟨K, rfl⟩ : ∃ K : Nat, k = (K : Int) := ⟨k.toNat, by omega⟩
    obtain ⟨C, rfl⟩ : ∃ K : Nat, cut = (K : Int) := ⟨cut.toNat, by omega⟩
    obtain ⟨A, rfl⟩ : ∃ K : Nat, at_ = (K : Int) := ⟨at_.toNat, by omega⟩
    obtain ⟨Y, rfl⟩ : ∃ K : Nat, by_ = (K : Int) := ⟨by_.toNat, by omega⟩
    exact torn9_in w K v bs C A Y hs hT (by omega) (by omega) (by omega) (by omega) (by omega) (by omega)
  · exact torn9_out w k v bs cut at_ by_ hs hT h
end Go.Proofs.YtjohnomlhcncnaaDoor.G
