/-
  Kread2, Kr3b, Kread4, Kr5b, Kserb, Kunpb, Kunp2b, Kunp3b.
-/
import Derived.Test.YtllfanlhgnkcfaaGreatDoorQ45
import Derived.Test.YtllfanlhgnkcfaaGreatDoorQ46
import Derived.Test.YtllfanlhgnkcfaaGreatDoorQ33
import Derived.Test.YtllfanlhgnkcfaaGreatDoorQ36
import Derived.Test.YtllfanlhgnkcfaaGreatDoorQ38
import Derived.Test.YtllfanlhgnkcfaaGreatDoorQ28
namespace Go.Proofs.YtllfanlhgnkcfaaGreatDoor.K
open Go.RowKit Go.Proofs.Lys Go.Maps Go.Shelf
set_option linter.unusedVariables false
set_option linter.unusedSimpArgs false
set_option maxRecDepth 100000 in
set_option maxHeartbeats 1600000 in
theorem number_any (w0 w : World) (R : Nat) (v : Value) (bs : List UInt8) (h : RdAt w0 w R v bs) (hl : bs.length ≤ 10000000) :
  Calls Tryz.prog 62 #[.pointer (some ⟨R, 0, none⟩)] w (NumP w0 w R bs) := by
 have HG := hid (U.get_any w v bs ((h.src.stay h.kept).1) hl)
 have c0 := h.blk.cell 0 rfl
 have HR := hid (refuse_no 5 w)
 have HY := hid (refuse_yes 5 w)
 have HT := hid (fun n (hn : n ≤ bs.length) => take_yes w0 w R v bs h n hn)
 obtain ⟨a, c, rfl, _⟩ := h.src.2
 have hcs := U.getA_cases bs 0 0 (by decide) (by decide)
 have hpos := C.getA_pos bs 0 0
 have hnum : numK bs = if (getA bs 0 0).2.2 = 0 then some (wrap64 ((getA bs 0 0).1 : Int), (getA bs 0 0).2.1) else none := rfl
 clear h
 rcases hcs with e0 | ⟨u, k, e0, hu, hk⟩
 ·rw [e0] at HG hnum
  have hno : numK bs = none := by rw [hnum]; rfl
  have HF : Hid (NumP w0 w R bs (gaveF 5) w) := .inl ⟨hno, rfl, rfl⟩
  have hgot : U.got (0, 0, 5) = .tuple #[.int .i64 0, .int .i64 0, .int .i64 5] := by
   unfold U.got
   rw [show wrap64 ((0 : Nat) : Int) = 0 by unfold wrap64; omega]
   rfl
  rw [hgot] at HG
  generalize bs.length = M at *
  clear hnum e0 hno HT hgot hpos
  go_enter Tryz.func62, Tryz.ntmps62
  go_wp2_with fail
  refine HG.out.mono ?_
  rintro e w' ⟨rfl, hw⟩
  replace hw := hw.symm
  subst hw
  go_wp2_with fail
  refine HY.out.mono ?_
  rintro e w' ⟨rfl, hw⟩
  replace hw := hw.symm
  subst hw
  exact ⟨rfl, HF.out⟩
 ·rw [e0] at HG hnum hpos
  have hyes : numK bs = some (wrap64 (u : Int), k) := by rw [hnum, if_pos rfl]
  have hk0 : 0 < k := hpos rfl
  have HTK := hid (HT.out k (by omega))
  have HF : Hid (∀ w', (∃ v', RdAt w0 w' R v' (bs.drop k) ∧ Only (fun j => j = R) w w') → NumP w0 w R bs (.returned (.int .i64 (wrap64 (u : Int)))) w') := fun w' hx => by
   obtain ⟨v', h1, h2⟩ := hx
   exact .inr ⟨_, k, v', hyes, by omega, hk0, rfl, h1, h2⟩
  have hgot : U.got (u, k, 0) = .tuple #[.int .i64 (wrap64 (u : Int)), .int .i64 (k : Int), .int .i64 0] := rfl
  rw [hgot] at HG
  generalize wrap64 (u : Int) = U0 at HG HF
  generalize bs.length = M at *
  clear hnum e0 hyes HT hgot hpos hk0
  go_enter Tryz.func62, Tryz.ntmps62
  go_wp2_with fail
  refine HG.out.mono ?_
  rintro e w' ⟨rfl, hw⟩
  replace hw := hw.symm
  subst hw
  go_wp2_with fail
  refine HR.out.mono ?_
  rintro e w' ⟨rfl, hw⟩
  replace hw := hw.symm
  subst hw
  go_wp2_with fail
  refine HTK.out.mono ?_
  rintro e w2 ⟨u2, v2, rfl, _, hrd, hon⟩
  have HF2 := hid (HF.out w2 ⟨v2, hrd, hon⟩)
  clear hrd hon
  go_wp2
  go_ret
  exact HF2.out
def labK (bs : List UInt8) : Option (N.Labs × List UInt8) :=
 (numK bs).bind (fun q => if q.1 < 0 ∨ ((bs.drop q.2).length : Int) < q.1 then none else (N.parseL ((bs.drop q.2).take q.1.toNat)).map (fun m => (m, (bs.drop q.2).drop q.1.toNat)))
def LabP (w0 w : World) (R : Nat) (bs : List UInt8) (e : Ending) (w' : World) : Prop :=
 (labK bs = none ∧ e = gaveF 5 ∧ Only (fun j => j = R) w w') ∨ ∃ m more u v', labK bs = some (m, more) ∧ e = .returned u ∧ N.LabAt w' w.heap.size u m ∧ RdAt w0 w' R v' more ∧ Only (fun j => j = R) w w'
end Go.Proofs.YtllfanlhgnkcfaaGreatDoor.K
namespace Go.Proofs.YtllfanlhgnkcfaaGreatDoor.K
open Go.RowKit Go.Proofs.Lys Go.Maps Go.Shelf
set_option linter.unusedVariables false
set_option linter.unusedSimpArgs false
theorem mkB_toList (bs : List UInt8) : (⟨bs.toArray⟩ : ByteArray).data.toList = bs := by simp
set_option maxRecDepth 100000 in
set_option maxHeartbeats 1600000 in
theorem labels_any (w0 w : World) (R : Nat) (v : Value) (bs : List UInt8) (h : RdAt w0 w R v bs) (hl : bs.length ≤ 2000000) (hX : ∀ T k, numK bs = some (T, k) → T ≤ 100000 ∨ (bs.drop k).length ≤ 100000) (hM : N.Mx w0) :
  Calls Tryz.prog 86 #[.pointer (some ⟨R, 0, none⟩)] w (LabP w0 w R bs) := by
 have HNB := hid (number_any w0 w R v bs h (by omega))
 have HR := hid (fun W => refuse_no 5 W)
 have HY := hid (fun W => refuse_yes 5 W)
 have HM := hid hM
 have HLK : Hid (labK bs = (numK bs).bind (fun q => if q.1 < 0 ∨ ((bs.drop q.2).length : Int) < q.1 then none else (N.parseL ((bs.drop q.2).take q.1.toNat)).map (fun m => (m, (bs.drop q.2).drop q.1.toNat)))) := rfl
 obtain ⟨P, hP⟩ : ∃ P, LabP w0 w R bs = P := ⟨_, rfl⟩
 rw [hP]
 have HNO : Hid (∀ w', labK bs = none → Only (fun j => j = R) w w' → P (gaveF 5) w') := fun w' h1 h2 => by rw [← hP]; exact .inl ⟨h1, rfl, h2⟩
 have HOK : Hid (∀ w' m more u v', labK bs = some (m, more) → N.LabAt w' w.heap.size u m → RdAt w0 w' R v' more → Only (fun j => j = R) w w' → P (.returned u) w') := fun w' m more u v' h1 h2 h3 h4 => by rw [← hP]; exact .inr ⟨m, more, u, v', h1, rfl, h2, h3, h4⟩
 have HX := hid hX
 clear hP h hM hX
 go_enter Tryz.func86, Tryz.ntmps86
 go_wp2_with fail
 refine HNB.out.mono ?_
 rintro e w1 (⟨h1, rfl, rfl⟩ | ⟨n, k, v1, h1, hk, _, rfl, hr1, o1⟩)
 ·exact ⟨rfl, HNO.out _ (by rw [HLK.out, h1]; rfl) (Only.refl _ _)⟩
 ·by_cases hn : n < 0 ∨ ((bs.drop k).length : Int) < n
  ·have HTN := hid (take_no w0 w1 R v1 (bs.drop k) hr1 n hn)
   have HF := hid (HNO.out w1 (by rw [HLK.out, h1]; simp only [Option.bind_some]; rw [if_pos hn]) o1)
   clear hr1 o1 hn h1 hk
   go_wp2_with fail
   refine HTN.out.mono ?_
   rintro e w' ⟨rfl, hw⟩
   replace hw := hw.symm
   subst hw
   exact ⟨rfl, HF.out⟩
  ·obtain ⟨T, rfl⟩ : ∃ T : Nat, n = (T : Int) := ⟨n.toNat, by omega⟩
   have HTK := hid (take_yes w0 w1 R v1 (bs.drop k) hr1 T (by omega))
   have HL2 : Hid (labK bs = (N.parseL ((bs.drop k).take T)).map (fun m => (m, (bs.drop k).drop T))) := by
    show _ = _
    rw [HLK.out, h1]
    simp only [Option.bind_some]
    rw [if_neg hn, Int.toNat_natCast]
   have HO1 := hid o1
   have hTl : ((bs.drop k).take T).length ≤ 100000 := by
    have := HX.out _ _ h1
    rw [List.length_take]
    omega
   clear hr1 o1 hn h1 hk
   go_wp2_with fail
   refine HTK.out.mono ?_
   rintro e w2 ⟨u2, v2, rfl, hs2, hr2, o2⟩
   have c2 := G.bytes_str (hs2.1.stay hr2.kept)
   have HPA := hid (N.parse_any w2 ⟨((bs.drop k).take T).toArray⟩ (HM.out.stay hr2.kept) (by
    show ((bs.drop k).take T).toArray.size ≤ 100000
    simpa using hTl))
   rw [mkB_toList] at HPA
   have HR2 := hid hr2
   have HO2 := hid (HO1.out.trans o2 (fun _ _ e => e))
   obtain ⟨a2, d2, e2, _⟩ := hs2.2
   generalize ((bs.drop k).take T).length = ML at e2
   subst e2
   generalize (⟨((bs.drop k).take T).toArray⟩ : ByteArray) = SB at c2 HPA
   clear hs2 hr2 o2 hTl
   go_wp2_with fail
   refine HPA.out.mono ?_
   rintro e w3 ⟨⟨u3, n3, rfl, hA⟩, k3⟩
   have HO3 := hid (HO2.out.trans (k3.mono (O' := fun j => j = R) (fun _ _ f => f.elim)) (fun _ _ e => e))
   cases hp : N.parseL ((bs.drop k).take T) with
   | none =>
    rw [hp] at hA
    obtain ⟨rfl, rfl⟩ := hA
    have HF := hid (HNO.out w3 (by rw [HL2.out, hp]; rfl) HO3.out)
    clear hp k3 c2
    go_wp2_with fail
    refine (HY.out _).mono ?_
    rintro e w' ⟨rfl, hw⟩
    replace hw := hw.symm
    subst hw
    exact ⟨rfl, HF.out⟩
   | some m =>
    rw [hp] at hA
    obtain ⟨rfl, hat⟩ := hA
    have HF := hid (HOK.out w3 m _ u3 v2 (by rw [HL2.out, hp]; rfl) (N.ownN_base hat (by have := HO2.out.size; omega)) (HR2.out.stay k3) HO3.out)
    obtain ⟨ua, uc, hue⟩ := hat.src.len
    generalize m.length = UL at hue
    subst hue
    clear hp k3 c2 hat
    go_wp2_with fail
    refine (HR.out _).mono ?_
    rintro e w' ⟨rfl, hw⟩
    replace hw := hw.symm
    subst hw
    go_wp2_with fail
    exact HF.out
end Go.Proofs.YtllfanlhgnkcfaaGreatDoor.K
namespace Go.Proofs.YtllfanlhgnkcfaaGreatDoor.K
open Go.RowKit Go.Proofs.Lys Go.Maps Go.Shelf
open Go.Proofs.YtllfanlhgnkcfaaGreatDoor.N (ownN_slice ownN_lt ownN_only ownN_stay ownN_base ownN_typed ownN_some)
set_option linter.unusedVariables false
set_option linter.unusedSimpArgs false
theorem cutR_lt {bs a r : List UInt8} (h : C.cutR bs = some (a, r)) : r.length < bs.length := by
 unfold C.cutR at h
 have hp := C.getA_pos bs 0 0
 have hc := U.getA_cases bs 0 0 (by decide) (by decide)
 split at h
 ·cases h
 ·rename_i h1
  simp only [Option.some.injEq, Prod.mk.injEq] at h
  rcases hc with e | ⟨u, k, e, _, hk⟩
  ·exfalso
   apply h1
   rw [e]
   simp
  ·rw [e] at hp
   have h2 := hp rfl
   rw [← h.2, e]
   simp only [List.length_drop]
   simp only at h2
   omega
theorem reads_bounds {bs : List UInt8} {l : C.Smps} {n : Nat} {x : Int} (h : C.Reads bs l n x) : (x = 5 ∧ l = [] ∧ n = 0) ∨ (x = 0 ∧ n ≤ bs.length ∧ 3 ≤ n ∧ l.length ≤ 120) := by
 rcases h with ⟨_, h1, h2, h3⟩ | ⟨N, a, c, k, hh, t, e, v, f, hs, hv, ⟨_, h1, h2, h3⟩ | ⟨rfl, rfl, h1, h2, h3⟩⟩
 ·exact .inl ⟨h3, h1, h2⟩
 ·exact .inl ⟨h3, h1, h2⟩
 ·refine .inr ⟨h3, ?_⟩
  have ht := C.readsS_len hs
  unfold C.headC at hh
  split at hh
  ·cases hh
  ·rename_i hn
   have hp := C.getA_pos bs 0 0 (by
    by_cases h9 : (getA bs 0 0).2.2 = 0
    ·exact h9
    ·exact absurd (.inl h9) hn)
   cases h4 : C.cutR (bs.drop (getA bs 0 0).2.1) with
   | none => rw [h4] at hh; cases hh
   | some q1 =>
    rw [h4] at hh
    simp only [Option.bind_some] at hh
    cases h5 : C.cutR q1.2 with
    | none => rw [h5] at hh; cases hh
    | some q2 =>
     rw [h5] at hh
     simp only [Option.map_some, Option.some.injEq, Prod.mk.injEq] at hh
     have l1 := cutR_lt (a := q1.1) (r := q1.2) h4
     have l2 := cutR_lt (a := q2.1) (r := q2.2) h5
     rw [List.length_drop] at l1
     have h120 : N ≤ 120 := by
      rw [← hh.1]
      have : ¬ 120 < wrap64 ((getA bs 0 0).1 : Int) := fun h => hn (.inr (.inr h))
      omega
     rw [h1, h2, ← hh.2.2.2, List.length_zip]
     omega
def SmpsR : Nat → List UInt8 → C.Smps → Option (C.Smps × List UInt8) → Prop
 | 0, bs, acc, r => r = some (acc, bs)
 | n + 1, bs, acc, r => ∃ l k x, C.Reads bs l k x ∧ ((x ≠ 0 ∧ r = none) ∨ (x = 0 ∧ SmpsR n (bs.drop k) (acc ++ l) r))
theorem SmpsR.inj : ∀ (n : Nat) (bs : List UInt8) (acc : C.Smps) {r r' : Option (C.Smps × List UInt8)}, SmpsR n bs acc r → SmpsR n bs acc r' → r = r'
 | 0, bs, acc, r, r', h, h' => by
  unfold SmpsR at h h'
  rw [h, h']
 | n + 1, bs, acc, r, r', h, h' => by
  obtain ⟨l, k, x, h1, h2⟩ := h
  obtain ⟨l', k', x', h1', h2'⟩ := h'
  obtain ⟨rfl, rfl, rfl⟩ := h1.inj h1'
  rcases h2 with ⟨h0, h2⟩ | ⟨h0, h2⟩ <;> rcases h2' with ⟨h0', h2'⟩ | ⟨h0', h2'⟩
  ·rw [h2, h2']
  ·exact absurd h0' h0
  ·exact absurd h0 h0'
  ·exact SmpsR.inj n _ _ h2 h2'
def SmpK (bs : List UInt8) (r : Option (C.Smps × List UInt8)) : Prop := (numK bs = none ∧ r = none) ∨ ∃ n k, numK bs = some (n, k) ∧ SmpsR n.toNat (bs.drop k) [] r
theorem SmpK.inj {bs : List UInt8} {r r' : Option (C.Smps × List UInt8)} (h : SmpK bs r) (h' : SmpK bs r') : r = r' := by
 rcases h with ⟨h1, h2⟩ | ⟨n, k, h1, h2⟩ <;> rcases h' with ⟨h1', h2'⟩ | ⟨n', k', h1', h2'⟩
 ·rw [h2, h2']
 ·rw [h1] at h1'; cases h1'
 ·rw [h1] at h1'; cases h1'
 ·rw [h1] at h1'
  simp only [Option.some.injEq, Prod.mk.injEq] at h1'
  obtain ⟨rfl, rfl⟩ := h1'
  exact SmpsR.inj _ _ _ h2 h2'
def SmpP (w0 w : World) (R : Nat) (bs : List UInt8) (e : Ending) (w' : World) : Prop :=
 Only (fun j => j = R) w w' ∧ ((SmpK bs none ∧ e = gaveF 5) ∨ ∃ l more u v', SmpK bs (some (l, more)) ∧ e = .returned u ∧ SmpAt w' w.heap.size u l ∧ RdAt w0 w' R v' more ∧ 3 * l.length + 120 * more.length ≤ 120 * bs.length)
end Go.Proofs.YtllfanlhgnkcfaaGreatDoor.K
namespace Go.Proofs.YtllfanlhgnkcfaaGreatDoor.K
open Go.RowKit Go.Proofs.Lys Go.Maps Go.Shelf
open Go.Proofs.YtllfanlhgnkcfaaGreatDoor.N (ownN_slice ownN_lt ownN_only ownN_stay ownN_base ownN_typed ownN_some)
set_option linter.unusedVariables false
set_option linter.unusedSimpArgs false
theorem numK_le {bs : List UInt8} {n : Int} {k : Nat} (h : numK bs = some (n, k)) : n ≤ 9223372036854775807 := by
 unfold numK at h
 split at h
 ·simp only [Option.some.injEq, Prod.mk.injEq] at h
  rw [← h.1]
  unfold wrap64
  omega
 ·cases h
set_option maxRecDepth 100000 in
set_option maxHeartbeats 3200000 in
theorem samples_any (w0 w : World) (R : Nat) (v : Value) (bs : List UInt8) (h : RdAt w0 w R v bs) (hl : bs.length ≤ 2000000) :
  Calls Tryz.prog 87 #[.pointer (some ⟨R, 0, none⟩)] w (SmpP w0 w R bs) := by
 have HNB := hid (number_any w0 w R v bs h (by omega))
 have HR := hid (fun W => refuse_no 5 W)
 have HY := hid (fun W => refuse_yes 5 W)
 have hRw : R < w.heap.size := h.blk.lt
 obtain ⟨P, hP⟩ : ∃ P, SmpP w0 w R bs = P := ⟨_, rfl⟩
 rw [hP]
 have HNO : Hid (∀ w', SmpK bs none → Only (fun j => j = R) w w' → P (gaveF 5) w') := fun w' h1 h2 => by rw [← hP]; exact ⟨h2, .inl ⟨h1, rfl⟩⟩
 have HOK : Hid (∀ w' l more u v', SmpK bs (some (l, more)) → SmpAt w' w.heap.size u l → RdAt w0 w' R v' more → Only (fun j => j = R) w w' → 3 * l.length + 120 * more.length ≤ 120 * bs.length → P (.returned u) w') := fun w' l more u v' h1 h2 h3 h4 h5 => by rw [← hP]; exact ⟨h4, .inr ⟨l, more, u, v', h1, rfl, h2, h3, h5⟩⟩
 have HLE := hid hl
 have HRW := hid hRw
 clear hP h hRw hl
 go_enter Tryz.func87, Tryz.ntmps87
 go_wp2_with fail
 refine HNB.out.mono ?_
 rintro e w1 (⟨h1, rfl, rfl⟩ | ⟨n, k, v1, h1, hk, _, rfl, hr1, o1⟩)
 ·exact ⟨rfl, HNO.out _ (.inl ⟨h1, rfl⟩) (Only.refl _ _)⟩
 ·have HN : Hid (∀ r, SmpsR n.toNat (bs.drop k) [] r → SmpK bs r) := fun r hr => .inr ⟨n, k, h1, hr⟩
  have hnb := numK_le h1
  have HR1 := hid hr1
  have HO1 := hid o1
  have HK := hid hk
  clear h1 hr1 o1 hk HNB
  go_wp2_with fail
  go_loopw [3, 9] (fun s3 s9 wr => ∃ (i : Nat) (acc : C.Smps) (cur : List UInt8) (cv : Value), (i : Int) ≤ max n 0 ∧ s9 = .int .i64 (i : Int) ∧ Hid (SmpAt wr w.heap.size s3 acc) ∧ Hid (RdAt w0 wr R cv cur) ∧ Hid (∀ r, SmpsR (n.toNat - i) cur acc r → SmpK bs r) ∧ Hid (Only (fun j => j = R) w wr) ∧ Hid (3 * acc.length + 120 * cur.length ≤ 120 * bs.length)) (fun _ s9 _ => n.toNat - (intOf s9).toNat)
  case atStart => exact ⟨0, [], bs.drop k, v1, by omega, rfl, hid (World.ownsRow_nil _ _ _ _), HR1, hid (fun r hr => HN.out r (by simpa using hr)), HO1, hid (by have := HK.out; rw [List.length_drop]; simp; omega)⟩
  case round =>
   obtain ⟨i, acc, cur, cv, hi, rfl, ha, hrd, hck, ho, hsz⟩ := hrel
   by_cases hlt : (i : Int) < n
   ·have HU := hid (C.unpack_any wr cv cur (hrd.out.src.stay hrd.out.kept) (by have := hsz.out; have := HLE.out; omega))
    have y0 := hrd.out.blk.cell 0 rfl
    obtain ⟨ca, cc, e0, _⟩ := hrd.out.src.2
    obtain ⟨CN, hCN⟩ : ∃ n, cur.length = n := ⟨_, rfl⟩
    rw [hCN] at e0
    subst e0
    have HST : Hid (∃ m, n.toNat - i = m + 1 ∧ n.toNat - (i + 1) = m) := ⟨n.toNat - i - 1, by omega, by omega⟩
    have d1 : decide ((i : Int) < n) = true := decide_eq_true hlt
    clear hCN
    go_wp2_with fail
    refine HU.out.mono ?_
    rintro e w2 ⟨k2, l2, n2, u2, x2, rfl, hrs, hat⟩
    have HK2 := hid k2
    have HRS := hid hrs
    have hrd2 := hrd.out.stay k2
    have HO2 := hid (ho.out.trans (k2.mono (O' := fun j => j = R) (fun _ _ f => f.elim)) (fun _ _ e => e))
    obtain ⟨ua, uc, hue⟩ := ownN_slice hat
    rcases reads_bounds hrs with ⟨rfl, rfl, rfl⟩ | ⟨rfl, hn2, h3, h120⟩
    ·have HF := hid (HNO.out w2 (hck.out none (by
      obtain ⟨m, e1, e2⟩ := HST.out
      rw [e1]
      exact ⟨_, _, _, HRS.out, .inl ⟨by decide, rfl⟩⟩)) HO2.out)
     subst hue
     clear hat hrs k2 hrd2 y0
     go_wp2_with fail
     refine (HY.out _).mono ?_
     rintro e w' ⟨rfl, hw⟩
     replace hw := hw.symm
     subst hw
     exact ⟨rfl, HF.out⟩
    ·have HTK := hid (take_yes w0 w2 R _ cur hrd2 n2 hn2)
     have HAT := hid hat
     have HUE := hid hue
     obtain ⟨LU, hLU⟩ : ∃ n, l2.length = n := ⟨_, rfl⟩
     rw [hLU] at hue
     subst hue
     clear hat hrs k2 hrd2 y0 hLU
     go_wp2_with fail
     refine (HR.out _).mono ?_
     rintro e w' ⟨rfl, hw⟩
     replace hw := hw.symm
     subst hw
     go_wp2_with fail
     refine HTK.out.mono ?_
     rintro e w3 ⟨tk3, v3, rfl, ht3, hr3, o3⟩
     have hA3 : SmpAt w3 w.heap.size u3 acc := ownN_only (ownN_stay ha.out HK2.out) o3 (fun j hj e => by have := (ownN_lt ha.out hj).1; have := HRW.out; omega)
     have hS3 : SmpSrc w3 (.slice ua LU uc) l2 := SmpAt.src (ownN_only HAT.out o3 (fun j hj e => by have := (ownN_lt HAT.out hj).1; have := HRW.out; have := ho.out.size; omega))
     have hw3 : w.heap.size ≤ w3.heap.size := Nat.le_trans HO2.out.size o3.size
     obtain ⟨v4, w4, hr4, h4, hg4, _⟩ := smp_append hA3 hS3 (by have := hsz.out; have := HLE.out; omega) hw3
     have hO4 : Only (fun k => u3.ownBlock = some k) w3 w4 := (Only.refl _ w3).grown hg4 (fun j hj _ => hj)
     have Hr := hid hr4
     have HA4 := hid h4
     have hge : ∀ j, u3.ownBlock = some j → w.heap.size ≤ j := fun j hj => (ownN_lt ha.out hj).1
     have HR4 : Hid (RdAt w0 w4 R v3 (cur.drop n2)) := ⟨hO4.blk hr3.blk (fun e => by have := hge _ e; have := HRW.out; omega), hr3.src, hr3.kept.trans hO4 (fun j hj e => by have := hge _ e; have := HRW.out; have := hr3.le; omega), hr3.le⟩
     have HO4 := hid ((HO2.out.trans o3 (fun _ _ e => e)).trans hO4 (fun j hj e => by have := hge _ e; omega))
     have HCK : Hid (∀ r, SmpsR (n.toNat - (i + 1)) (cur.drop n2) (acc ++ l2) r → SmpK bs r) := fun r hr => hck.out r (by
      obtain ⟨m, e1, e2⟩ := HST.out
      rw [e1]
      rw [e2] at hr
      exact ⟨_, _, _, HRS.out, .inr ⟨rfl, hr⟩⟩)
     have HSZ : Hid (3 * (acc ++ l2).length + 120 * (cur.drop n2).length ≤ 120 * bs.length) := by
      show _ ≤ _
      have := hsz.out
      rw [List.length_append, List.length_drop]
      omega
     have htk : ∃ ta tn tc, tk3 = .slice ta tn tc := by obtain ⟨ta, tc, e, _⟩ := ht3.2; exact ⟨_, _, _, e⟩
     obtain ⟨ta, tn, tc, rfl⟩ := htk
     clear hA3 hS3 hw3 hr4 h4 hg4 hO4 hge hr3 o3 ht3
     go_wp2_with (at_builtin; refine wpList_append_run rfl _ _ _ rfl rfl rfl Hr ?_)
     go_roundw
     case rel => exact ⟨i + 1, acc ++ l2, cur.drop n2, v3, by omega, by go_num, HA4, HR4, HCK, HO4, HSZ⟩
     case measure => simp [intOf]; omega
   ·have d1 : decide ((i : Int) < n) = false := decide_eq_false hlt
    have HF := hid (HOK.out wr acc cur _ cv (hck.out _ (by rw [show n.toNat - i = 0 by omega]; rfl)) ha.out hrd.out ho.out hsz.out)
    go_wp2_with fail
    exact HF.out
end Go.Proofs.YtllfanlhgnkcfaaGreatDoor.K
namespace Go.Proofs.YtllfanlhgnkcfaaGreatDoor.K
open Go.RowKit Go.Proofs.Lys Go.Maps Go.Shelf
open Go.Proofs.YtllfanlhgnkcfaaGreatDoor.N (ownN_slice ownN_lt ownN_only ownN_stay ownN_base ownN_typed ownN_some)
set_option linter.unusedVariables false
set_option linter.unusedSimpArgs false
attribute [local go_sem] Oper.semAt_some
def SersR : Nat → List UInt8 → List Ser → Option (List Ser × List UInt8) → Prop
 | 0, bs, acc, r => r = some (acc, bs)
 | n + 1, bs, acc, r => (labK bs = none ∧ r = none) ∨ ∃ m more q, labK bs = some (m, more) ∧ SmpK more q ∧ ((q = none ∧ r = none) ∨ ∃ l rest, q = some (l, rest) ∧ SersR n rest (acc ++ [(m, l)]) r)
def SerK (bs : List UInt8) (r : Option (List Ser × List UInt8)) : Prop := (numK bs = none ∧ r = none) ∨ ∃ n k, numK bs = some (n, k) ∧ SersR n.toNat (bs.drop k) [] r
theorem numK_pos {bs : List UInt8} {n : Int} {k : Nat} (h : numK bs = some (n, k)) : 0 < k ∧ k ≤ bs.length := by
 unfold numK at h
 have hp := C.getA_pos bs 0 0
 split at h
 ·rename_i h0
  simp only [Option.some.injEq, Prod.mk.injEq] at h
  rcases U.getA_cases bs 0 0 (by decide) (by decide) with e | ⟨u, k', e, _, hk⟩
  ·rw [e] at h0
   cases h0
  ·have h1 := hp h0
   rw [← h.2]
   rw [e] at h1 ⊢
   simp only at h1 ⊢
   omega
 ·cases h
theorem labK_le {bs : List UInt8} {m : N.Labs} {more : List UInt8} (h : labK bs = some (m, more)) : more.length < bs.length := by
 unfold labK at h
 cases h1 : numK bs with
 | none => rw [h1] at h; cases h
 | some q =>
  rw [h1] at h
  simp only [Option.bind_some] at h
  split at h
  ·cases h
  ·cases h2 : N.parseL ((bs.drop q.2).take q.1.toNat) with
   | none => rw [h2] at h; cases h
   | some m' =>
    rw [h2] at h
    simp only [Option.map_some, Option.some.injEq, Prod.mk.injEq] at h
    have hp := numK_pos h1
    rw [← h.2, List.length_drop, List.length_drop]
    omega
def Fine : Nat → List UInt8 → Prop
 | 0, _ => True
 | n + 1, bs => (∀ T k, numK bs = some (T, k) → T ≤ 100000 ∨ (bs.drop k).length ≤ 100000) ∧ ∀ m more l rest, labK bs = some (m, more) → SmpK more (some (l, rest)) → Fine n rest
def FineB (B : List UInt8) : Prop := ∀ n1 k1 n2 k2 n k, numK (B.drop 4) = some (n1, k1) → numK ((B.drop 4).drop k1) = some (n2, k2) → numK (((B.drop 4).drop k1).drop k2) = some (n, k) → Fine n.toNat ((((B.drop 4).drop k1).drop k2).drop k)
abbrev KpR (w0 : World) (R Bs : Nat) (X Y : World) : Prop := Only (fun k => k ≠ R ∧ k ≠ Bs ∧ w0.heap.size ≤ k) X Y
set_option maxRecDepth 100000 in
set_option maxHeartbeats 3200000 in
theorem series1_in (m : Nat) (hm : 1 ≤ m) (q Bs R : Nat) (w0 W : World) (v : Value) (bs : List UInt8) (hrd : RdAt w0 W R v bs) (hl : bs.length ≤ 2000000) (hFi : ∀ n k, numK bs = some (n, k) → Fine n.toNat (bs.drop k)) (hM : N.Mx w0) (hBs : Blk W Bs [.pointer (some ⟨R, 0, none⟩)] 89)
  (Inv : List SV → World → Prop) (hI : ∀ pre X Y, Inv pre X → Only (fun k => k = R) X Y → Inv pre Y)
  (hY : ∀ pre X0 X (x : SV), pre.length < bs.length → Inv pre X0 → Inv pre X → W.heap.size ≤ X0.heap.size → X0.heap.size ≤ X.heap.size → N.LabAt X X0.heap.size x.lv x.labs → SmpAt X X0.heap.size x.sv x.smps → (∀ j, x.lv.ownBlock = some j → x.sv.ownBlock ≠ some j) → YieldAt Fence.wide (m - 1) Tryz.prog q #[.agg #[x.lv, x.sv]] X fun e Y => e = .returned (.bool true) ∧ Inv (pre ++ [x]) Y ∧ KpR w0 R Bs X Y)
  (h0 : Inv [] W) :
  CallsIn Fence.wide m Tryz.prog 85 #[.func (.yield q) #[] #[], .pointer (some ⟨Bs, 0, none⟩)] W fun e Y => (∃ v l rest, e = .returned v ∧ SerK bs (some (l.map SV.ser, rest)) ∧ Inv l Y) ∨ (e = gaveF 5 ∧ SerK bs none ∧ ∃ pre, Inv pre Y) := by
 obtain ⟨P, hP⟩ : ∃ P, (fun (e : Ending) (Y : World) => (∃ v l rest, e = .returned v ∧ SerK bs (some (l.map SV.ser, rest)) ∧ Inv l Y) ∨ (e = gaveF 5 ∧ SerK bs none ∧ ∃ pre, Inv pre Y)) = P := ⟨_, rfl⟩
 rw [hP]
 have HOK : Hid (∀ Y v (l : List SV) rest, SerK bs (some (l.map SV.ser, rest)) → Inv l Y → P (.returned v) Y) := fun Y v l rest h1 h2 => by rw [← hP]; exact .inl ⟨v, l, rest, rfl, h1, h2⟩
 have HNO : Hid (∀ Y pre, SerK bs none → Inv pre Y → P (gaveF 5) Y) := fun Y pre h1 h2 => by rw [← hP]; exact .inr ⟨rfl, h1, pre, h2⟩
 clear hP
 refine callsIn_of_wp Tryz.func85 rfl trivial ?_ rfl
 simp only [Tryz.ntmps85, List.size_toArray, List.length_cons, List.length_nil, Nat.reduceAdd, Nat.reduceSub, Array.replicate_succ, Array.replicate_zero, List.push_toArray, List.append_toArray, List.nil_append, List.cons_append]
 have hnot : ∀ (x : Bool) (w : World), (Op.unary .not (.bool x)).run Tryz.prog w = .ok (.bool (!x)) w := fun _ _ => rfl
 have HNB := hid (number_any w0 W R v bs hrd (by omega))
 have hRW : R < W.heap.size := hrd.blk.lt
 have hBW : Bs < W.heap.size := hBs.lt
 have hRB : R ≠ Bs := fun e => (hrd.blk.typed.ne (e ▸ hBs.typed) (by decide)) rfl
 have b0 := hBs.cell 0 rfl
 have HY := hid hY
 have HI := hid hI
 have HBS := hid hBs
 have HFI0 := hid hFi
 clear hFi
 have HI0 := hid h0
 have HLE := hid hl
 have HM := hid hM
 have HRW := hid hRW
 have HBW := hid hBW
 have HRB := hid hRB
 clear hY hI hBs h0 hl hM hrd hRW hBW hRB
 gi_wp2_with (refine ⟨trivial, ?_⟩; gi_at_call 62; refine (callsIn_wide.2 HNB.out).mono ?_)
 rintro e w1 (⟨h1, rfl, rfl⟩ | ⟨n, k, v1, h1, hk, _, rfl, hr1, o1⟩)
 ·exact ⟨rfl, HNO.out _ [] (.inl ⟨h1, rfl⟩) HI0.out⟩
 ·have HN : Hid (∀ r, SersR n.toNat (bs.drop k) [] r → SerK bs r) := fun r hr => .inr ⟨n, k, h1, hr⟩
  have hnb := numK_le h1
  have HFI := hid (HFI0.out n k h1)
  have HR1 := hid hr1
  have HI1 := hid (HI.out _ _ _ HI0.out o1)
  have HB1 := hid (o1.blk HBS.out (fun e => HRB.out e.symm))
  have HZ1 := hid o1.size
  clear h1 hr1 o1 hk HNB b0
  gi_wp2
  gi_loopw [6] (fun p wr => ∃ (i : Nat) (acc : List SV) (cur : List UInt8) (cv : Value), (i : Int) ≤ max n 0 ∧ p = .int .i64 (i : Int) ∧ Hid (RdAt w0 wr R cv cur) ∧ Hid (Blk wr Bs [.pointer (some ⟨R, 0, none⟩)] 89) ∧ Hid (Inv acc wr) ∧ Hid (∀ r, SersR (n.toNat - i) cur (acc.map SV.ser) r → SerK bs r) ∧ Hid (acc.length + cur.length ≤ bs.length) ∧ Hid (W.heap.size ≤ wr.heap.size) ∧ Hid (Fine (n.toNat - i) cur)) (fun p _ => n.toNat - (intOf p).toNat)
  case atStart => exact ⟨0, [], bs.drop k, v1, by omega, rfl, HR1, HB1, HI1, hid (fun r hr => HN.out r (by simpa using hr)), hid (by rw [List.length_drop]; simp), HZ1, by simpa using HFI⟩
  case round =>
   obtain ⟨i, acc, cur, cv, hi, rfl, hrd, hbs, hinv, hck, hcl, hsz, hfn⟩ := hrel
   by_cases hlt : (i : Int) < n
   ·have HFM : Hid ((∀ T k, numK cur = some (T, k) → T ≤ 100000 ∨ (cur.drop k).length ≤ 100000) ∧ ∀ m more l rest, labK cur = some (m, more) → SmpK more (some (l, rest)) → Fine (n.toNat - (i + 1)) rest) := hid (by
     have h := hfn.out
     rw [show n.toNat - i = n.toNat - (i + 1) + 1 by omega] at h
     exact h)
    have HLB := hid (labels_any w0 wr R cv cur hrd.out (by have := hcl.out; have := HLE.out; omega) HFM.out.1 HM.out)
    have y0 := hbs.out.cell 0 rfl
    have HST : Hid (∃ m, n.toNat - i = m + 1 ∧ n.toNat - (i + 1) = m) := ⟨n.toNat - i - 1, by omega, by omega⟩
    have d1 : decide ((i : Int) < n) = true := decide_eq_true hlt
    gi_wp2_with (refine ⟨trivial, ?_⟩; gi_at_call 86; refine (callsIn_wide.2 HLB.out).mono ?_)
    rintro e w2 (⟨h2, rfl, o2⟩ | ⟨mm, more, lv, v2, h2, rfl, hat2, hr2, o2⟩)
    ·exact ⟨rfl, HNO.out _ acc (hck.out none (by obtain ⟨m, e1, e2⟩ := HST.out; rw [e1]; exact .inl ⟨h2, rfl⟩)) (HI.out _ _ _ hinv.out o2)⟩
    ·have HSM := hid (samples_any w0 w2 R v2 more hr2 (by have := labK_le h2; have := hcl.out; have := HLE.out; omega))
     have hbs2 := o2.blk hbs.out (fun e => HRB.out e.symm)
     have y2 := hbs2.cell 0 rfl
     have HBS2 := hid hbs2
     have HI2 := hid (HI.out _ _ _ hinv.out o2)
     have HAT := hid hat2
     have HL2 := hid h2
     have HZ2 := hid o2.size
     obtain ⟨la, lc, hle⟩ := hat2.src.len
     obtain ⟨LN, hLN⟩ : ∃ n, mm.length = n := ⟨_, rfl⟩
     rw [hLN] at hle
     subst hle
     clear hat2 hr2 o2 h2 hbs2 y0 HLB hLN
     gi_wp2_with (refine ⟨trivial, ?_⟩; gi_at_call 87; refine (callsIn_wide.2 HSM.out).mono ?_)
     rintro e w3 ⟨o3, ⟨hsk, rfl⟩ | ⟨l3, rest, sv, v3, hsk, rfl, hat3, hr3, hz3⟩⟩
     ·exact ⟨rfl, HNO.out _ acc (hck.out none (by obtain ⟨m, e1, e2⟩ := HST.out; rw [e1]; exact .inr ⟨_, _, _, HL2.out, hsk, .inl ⟨rfl, rfl⟩⟩)) (HI.out _ _ _ HI2.out o3)⟩
     ·have hA3 := ownN_only HAT.out o3 (fun j hj e => by have := (ownN_lt HAT.out hj).1; have := HRW.out; have := hsz.out; omega)
      have hy := HY.out acc wr w3 ⟨.slice la LN lc, sv, mm, l3⟩ (by have := labK_le HL2.out; have := hcl.out; omega) hinv.out (HI.out _ _ _ HI2.out o3) hsz.out (Nat.le_trans HZ2.out o3.size) hA3 (ownN_base hat3 HZ2.out) (fun j h1 h2 => by have := (ownN_lt HAT.out h1).2; have := (ownN_lt hat3 h2).1; omega)
      obtain ⟨fn, tmps, assign, body, hyl, hRR⟩ := hy
      have hb3 := o3.blk HBS2.out (fun e => HRB.out e.symm)
      have HB3 := hid hb3
      have HR3 := hid hr3
      have HZ3 := hid (Nat.le_trans hsz.out (Nat.le_trans HZ2.out o3.size))
      have HC3 : Hid (∀ r, SersR (n.toNat - (i + 1)) rest ((acc ++ [(⟨.slice la LN lc, sv, mm, l3⟩ : SV)]).map SV.ser) r → SerK bs r) := fun r hr => hck.out r (by
       obtain ⟨m, e1, e2⟩ := HST.out
       rw [e1]
       rw [e2, List.map_append] at hr
       exact .inr ⟨_, _, _, HL2.out, hsk, .inr ⟨_, _, rfl, hr⟩⟩)
      have HFN3 : Hid (Fine (n.toNat - (i + 1)) rest) := hid (HFM.out.2 _ _ _ _ HL2.out hsk)
      have HL3 : Hid ((acc ++ [(⟨.slice la LN lc, sv, mm, l3⟩ : SV)]).length + rest.length ≤ bs.length) := by
       show _ ≤ _
       rw [List.length_append, List.length_singleton]
       have := labK_le HL2.out
       have := hcl.out
       omega
      obtain ⟨sa, sc, hse⟩ := ownN_slice hat3
      obtain ⟨SN, hSN⟩ : ∃ n, l3.length = n := ⟨_, rfl⟩
      rw [hSN] at hse
      subst hse
      clear hA3 hat3 hr3 hsk o3 hz3 y2 hb3 hSN
      gi_wp2
      refine hRR.mono ?_
      rintro e W4 ⟨rfl, hi4, hk4⟩
      have HB4 := hid (hk4.blk HB3.out (fun e => e.2.1 rfl))
      have HI4 := hid hi4
      have HR4 : Hid (RdAt w0 W4 R v3 rest) := ⟨hk4.blk HR3.out.blk (fun e => e.1 rfl), HR3.out.src, HR3.out.kept.trans hk4 (fun j hj e => by have := e.2.2; omega), HR3.out.le⟩
      have HZ4 := hid (Nat.le_trans HZ3.out hk4.size)
      clear hi4 hk4 hRR hyl
      gi_wp2
      go_roundw
      case rel => exact ⟨i + 1, acc ++ [⟨.slice la LN lc, .slice sa SN sc, mm, l3⟩], rest, v3, by omega, by go_num, HR4, HB4, HI4, HC3, HL3, HZ4, HFN3⟩
      case measure => simp [intOf]; omega
   ·have d1 : decide ((i : Int) < n) = false := decide_eq_false hlt
    have HF := hid (fun v => HOK.out wr v acc cur (hck.out _ (by rw [show n.toNat - i = 0 by omega]; rfl)) hinv.out)
    gi_wp2
    go_end0
    exact HF.out _
end Go.Proofs.YtllfanlhgnkcfaaGreatDoor.K
namespace Go.Proofs.YtllfanlhgnkcfaaGreatDoor.K
open Go.RowKit Go.Proofs.Lys Go.Maps Go.Shelf
open Go.Proofs.YtllfanlhgnkcfaaGreatDoor.N (ownN_slice ownN_lt ownN_only ownN_stay ownN_base ownN_typed ownN_some)
set_option linter.unusedVariables false
set_option linter.unusedSimpArgs false
attribute [local go_sem] Oper.semAt_some
def BlkK (B : List UInt8) (r : Option (List Ser)) : Prop :=
 (B.length < 4 ∧ r = none) ∨ (4 ≤ B.length ∧ ((numK (B.drop 4) = none ∧ r = none) ∨ ∃ n k, numK (B.drop 4) = some (n, k) ∧ ((numK ((B.drop 4).drop k) = none ∧ r = none) ∨ ∃ n' k' q, numK ((B.drop 4).drop k) = some (n', k') ∧ SerK (((B.drop 4).drop k).drop k') q ∧ r = q.map (·.1))))
def UnA (w : World) (bs B : List UInt8) (e : Ending) (w' : World) : Prop :=
 Kept w w' ∧ ((BlkK B none ∧ e = gaveF 5) ∨ ∃ qs v', BlkK B (some (qs.map SV.ser)) ∧ (((checkB (qs.map SV.ser) = 0 ∧ blockB (qs.map SV.ser) = bs) ∧ e = .returned v' ∧ SerAt w' w.heap.size v' qs) ∨ (¬ (checkB (qs.map SV.ser) = 0 ∧ blockB (qs.map SV.ser) = bs) ∧ e = gaveF 5)))
theorem series_any (w : World) (R : Nat) : Calls Tryz.prog 63 #[.pointer (some ⟨R, 0, none⟩)] w fun e w' => e = .returned (.func (.func 85) #[] #[.pointer (some ⟨w.heap.size, 0, none⟩)]) ∧ w' = w.alloc (.cells #[.pointer (some ⟨R, 0, none⟩)] 89) := by
 have hmf : ∀ (fn : Fn) (first cap : Array Value) (w : World), (Instr.makeFunc fn first cap).run Tryz.prog w = .ok (.func fn first cap) w := fun _ _ _ _ => rfl
 go_enter Tryz.func63, Tryz.ntmps63
 go_wp2
 go_ret
 exact ⟨rfl, rfl⟩
structure UnI (w : World) (D bb : Nat) (r : Loop) (pre : List SV) (X : World) : Prop where
 rcd : X.heap[D + 1]? = some (.loop r)
 def_ : X.heap[D]? = some (.deferred (some []))
 kept : Kept w X
 box : ∃ u, Blk X bb [u] 22 ∧ SerAt X (D + 2) u pre
set_option maxRecDepth 100000 in
set_option maxHeartbeats 6400000 in
theorem unpacked_any (w : World) (v : Value) (bs : List UInt8) (hs : C.BSrc w v bs) (N : Nat) (hN : bs.length = N + 4) (hl : bs.length ≤ 2000000) (hFi : FineB (bs.take N)) (hT : G.Tab w) (hG : ErrT w) (hM : Go.Proofs.YtllfanlhgnkcfaaGreatDoor.N.Mx w) (heq : bs.drop N = G.four (G.sumL (bs.take N))) (hRe : ∀ l, BlkK (bs.take N) (some l) → Reach l) :
  Calls Tryz.prog 39 #[v] w (UnA w bs (bs.take N)) := by
 have HSM := hid (summed_yes w v bs ⟨hs.1, hs.2⟩ N hN (by omega) hT heq)
 unfold SumA at HSM
 have HS := hid hs
 have HRE := hid hRe
 have HFI := hid hFi
 have HT := hid hT
 have HGG := hid hG
 have HM := hid hM
 have hB0 : (bs.take N).length = N := by rw [List.length_take]; omega
 obtain ⟨B, hB⟩ : ∃ B, bs.take N = B := ⟨_, rfl⟩
 have HB := hid hB
 rw [hB] at hB0 HRE HFI ⊢
 obtain ⟨P, hP⟩ : ∃ P, UnA w bs B = P := ⟨_, rfl⟩
 rw [hP]
 have HNO : Hid (∀ w', BlkK B none → Kept w w' → P (gaveF 5) w') := fun w' h1 h2 => by rw [← hP]; exact ⟨h2, .inl ⟨h1, rfl⟩⟩
 have HOK : Hid (∀ w' qs v', BlkK B (some (qs.map SV.ser)) → (checkB (qs.map SV.ser) = 0 ∧ blockB (qs.map SV.ser) = bs) → SerAt w' w.heap.size v' qs → Kept w w' → P (.returned v') w') := fun w' qs v' h1 h2 h3 h4 => by rw [← hP]; exact ⟨h4, .inr ⟨qs, v', h1, .inl ⟨h2, rfl, h3⟩⟩⟩
 have HNX : Hid (∀ w' (qs : List SV), BlkK B (some (qs.map SV.ser)) → ¬ (checkB (qs.map SV.ser) = 0 ∧ blockB (qs.map SV.ser) = bs) → Kept w w' → P (gaveF 5) w') := fun w' qs h1 h2 h4 => by rw [← hP]; exact ⟨h4, .inr ⟨qs, undef, h1, .inr ⟨h2, rfl⟩⟩⟩
 clear hP
 obtain ⟨a, c, rfl, _⟩ := hs.2
 obtain ⟨M, hM2⟩ : ∃ M, bs.length = M := ⟨_, rfl⟩
 rw [hM2] at HSM hl HS ⊢
 rw [hB] at HSM
 have hNl : N ≤ 2000000 := by omega
 have HL := hid hl
 clear hs hN hT hG hM heq hRe hB hM2 hFi
 refine calls_of_wpF (n := 3) Tryz.func39 rfl ?_
 simp only [Tryz.ntmps39, List.size_toArray, List.length_cons, List.length_nil, Nat.reduceAdd, Nat.reduceSub, Array.replicate_succ, Array.replicate_zero, List.push_toArray, List.append_toArray, List.nil_append, List.cons_append]
 refine wpF_seq (wpF_of ?_)
 go_wp2_with fail
 refine wpF_seq (wpF_of ?_)
 go_wp2_with fail
 refine HSM.out.mono ?_
 rintro e w1 ⟨ba, bc, rfl, hb1, k1⟩
 obtain ⟨R, hR⟩ : ∃ R, w1.heap.size = R := ⟨_, rfl⟩
 obtain ⟨w2, hw2⟩ : ∃ w2, w1.alloc (.cells #[.slice ba N bc] 91) = w2 := ⟨_, rfl⟩
 have hk2 : Kept w1 w2 := by rw [← hw2]; exact (Only.refl _ w1).alloc _
 have hr2 : RdAt w w2 R (.slice ba N bc) B := ⟨by rw [← hw2, ← hR]; exact Blk.new w1 _ _, hb1, k1.trans hk2 (fun _ _ f => f), by rw [← hR]; exact k1.size⟩
 have HR2 := hid hr2
 clear hb1 k1 hk2 hr2 HSM
 go_wp2_with fail
 clear hw2 hR
 by_cases h4 : N < 4
 ·have HTN := hid (take_no w w2 R _ B HR2.out 4 (.inr (by omega)))
  have HF := hid (HNO.out w2 (.inl ⟨by omega, rfl⟩) HR2.out.kept)
  refine wpF_seq (wpF_of ?_)
  go_wp2_with fail
  refine HTN.out.mono ?_
  rintro e w' ⟨rfl, hw⟩
  replace hw := hw.symm
  subst hw
  exact HF.out
 ·have HTY := hid (take_yes w w2 R _ B HR2.out 4 (by omega))
  refine wpF_seq (wpF_of ?_)
  go_wp2_with fail
  refine HTY.out.mono ?_
  rintro e w3 ⟨u3, v3, rfl, hu3, hr3, o3⟩
  have HR3 := hid hr3
  obtain ⟨ua, uc, hue, _⟩ := hu3.2
  generalize (B.take 4).length = UL at hue
  subst hue
  clear hu3 hr3 o3 HTY HR2
  have hB4 : (B.drop 4).length ≤ 2000000 := by rw [List.length_drop]; omega
  have HN1 := hid (number_any w w3 R v3 (B.drop 4) HR3.out (by omega))
  go_wp2_with fail
  refine wpF_seq (wpF_of ?_)
  go_wp2_with fail
  refine HN1.out.mono ?_
  rintro e w4 (⟨h1, rfl, rfl⟩ | ⟨n1, k1, v4, h1, hk1, _, rfl, hr4, o4⟩)
  ·exact HNO.out _ (.inr ⟨by omega, .inl ⟨h1, rfl⟩⟩) HR3.out.kept
  ·have HR4 := hid hr4
   have HH1 := hid h1
   have hB5 : ((B.drop 4).drop k1).length ≤ 2000000 := by rw [List.length_drop]; omega
   have HN2 := hid (number_any w w4 R v4 ((B.drop 4).drop k1) HR4.out (by omega))
   clear hr4 o4 h1 HN1 HR3
   go_wp2_with fail
   refine wpF_seq (wpF_of ?_)
   go_wp2_with fail
   refine HN2.out.mono ?_
   rintro e w5 (⟨h2, rfl, rfl⟩ | ⟨n2, k2, v5, h2, hk2, _, rfl, hr5, o5⟩)
   ·exact HNO.out _ (.inr ⟨by omega, .inr ⟨_, _, HH1.out, .inl ⟨h2, rfl⟩⟩⟩) HR4.out.kept
   ·have HFK : Hid (∀ n k, numK (((B.drop 4).drop k1).drop k2) = some (n, k) → Fine n.toNat ((((B.drop 4).drop k1).drop k2).drop k)) := hid (fun n k h => HFI.out _ _ _ _ _ _ HH1.out h2 h)
    have HBK : Hid (∀ q, SerK (((B.drop 4).drop k1).drop k2) q → BlkK B (q.map (·.1))) := fun q hq => .inr ⟨by omega, .inr ⟨_, _, HH1.out, .inr ⟨_, _, q, h2, hq, rfl⟩⟩⟩
    have hB6 : (((B.drop 4).drop k1).drop k2).length ≤ 2000000 := by rw [List.length_drop]; omega
    have HR5 := hid hr5
    obtain ⟨bb, hbb⟩ : ∃ bb, w5.heap.size = bb := ⟨_, rfl⟩
    obtain ⟨w6, hw6⟩ : ∃ w6, w5.alloc (.cells #[.slice none 0 0] 22) = w6 := ⟨_, rfl⟩
    have hk6 : Kept w5 w6 := by rw [← hw6]; exact (Only.refl _ w5).alloc _
    have HB6 : Hid (Blk w6 bb [.slice none 0 0] 22) := by rw [← hw6, ← hbb]; exact Blk.new w5 _ _
    have HR6 := hid (hr5.stay hk6)
    have hbR : R < bb := by rw [← hbb]; exact hr5.blk.lt
    clear hr5 o5 h2 hk6 HR4 HN2 HR5
    go_wp2_with fail
    refine wpF_seq (wpF_of ?_)
    go_wp2_with fail
    clear hw6 hbb
    refine wpF_seq (wpF_seq (wpF_of ?_))
    go_wp2_with fail
    refine (series_any w6 R).mono ?_
    rintro e w7 ⟨rfl, hw7⟩
    have HW7 := hid hw7
    clear hw7
    go_wp2_with fail
    refine wpF_block ?_
    refine wpF_range (n := 2) (gf := 85) (lb := #[.pointer (some ⟨w6.heap.size, 0, none⟩)]) rfl (enters_of Tryz.func85 (by kernel_rfl) rfl) ?_
    generalize hr : loopRec _ _ _ _ _ _ = r
    have HRR : Hid (loopRec _ _ _ _ _ _ = r) := hr
    clear hr
    obtain ⟨D, hD⟩ : ∃ D, w7.heap.size = D := ⟨_, rfl⟩
    have hDw : D = w6.heap.size + 1 := by rw [← hD, HW7.out, World.size_alloc]
    have hK7 : Kept w6 w7 := by rw [HW7.out]; exact (Only.refl _ w6).alloc _
    have hB7 : Blk w7 w6.heap.size [.pointer (some ⟨R, 0, none⟩)] 89 := by rw [HW7.out]; exact Blk.new w6 _ _
    obtain ⟨W1, hW1⟩ : ∃ W1, (w7.alloc (.deferred (some []))).alloc (.loop r) = W1 := ⟨_, rfl⟩
    have hK2 : Kept w7 W1 := by rw [← hW1]; exact ((Only.refl _ w7).alloc _).alloc _
    have hsz : W1.heap.size = D + 2 := by rw [← hW1, World.size_alloc, World.size_alloc, hD]
    have hrc : W1.heap[D + 1]? = some (.loop r) := by
     rw [← hW1, ← hD]
     have := World.alloc_heap_new (w7.alloc (.deferred (some []))) (.loop r)
     rwa [World.size_alloc] at this
    have hdf : W1.heap[D]? = some (.deferred (some [])) := by
     rw [← hW1, ← hD]
     exact (Below.heap_alloc _ _ _ (by simp)).trans (World.alloc_heap_new w7 _)
    rw [hD, hW1]
    clear hW1
    have hK61 : Kept w6 W1 := hK7.trans hK2 (fun _ _ f => f)
    have hbl := HB6.out.lt
    have hRl := HR6.out.le
    have hKw : Kept w W1 := HR6.out.kept.trans hK61 (fun _ _ f => f)
    refine (series1_in 2 (by omega) (D + 1) w6.heap.size R w W1 v5 _ (HR6.out.stay hK61) hB6 HFK.out HM.out (hK2.blk hB7 (fun f => f)) (UnI w D bb r) ?_ ?_ ⟨hrc, hdf, hKw, _, hK61.blk HB6.out (fun f => f), SerAt.nil _ _⟩).mono ?_
    ·intro pre X Y hX hO
     obtain ⟨u, h1, h2⟩ := hX.box
     exact ⟨(hO.block _ (Array.getElem?_eq_some_iff.1 hX.rcd).1 (by omega)).trans hX.rcd, (hO.block _ (Array.getElem?_eq_some_iff.1 hX.def_).1 (by omega)).trans hX.def_, hX.kept.trans hO (fun j hj e => by omega), u, hO.blk h1 (fun e => by omega), h2.only hO (fun j hj _ e => by omega)⟩
    ·intro pre X0 X x hpl hX0 hX hz0 hz1 hlab hsmp hap
     obtain ⟨u, hbx, hser⟩ := hX.box
     obtain ⟨u0, _, hser0⟩ := hX0.box
     obtain ⟨lv, sv, labs, smps⟩ := x
     obtain ⟨la, lc, e0⟩ := hlab.src.len
     obtain ⟨sa, sc, e1⟩ := ownN_slice hsmp
     obtain ⟨ua, uc, e2⟩ := ownN_slice hser.row
     dsimp only at e0 e1 hlab hsmp hap ⊢
     obtain ⟨LN, hLN⟩ : ∃ n, labs.length = n := ⟨_, rfl⟩
     obtain ⟨SN, hSN⟩ : ∃ n, smps.length = n := ⟨_, rfl⟩
     obtain ⟨UN, hUN⟩ : ∃ n, pre.length = n := ⟨_, rfl⟩
     rw [hLN] at e0
     rw [hSN] at e1
     rw [hUN] at e2
     subst e0 e1 e2
     obtain ⟨Q, hQ⟩ : ∃ Q : Ending → World → Prop, Q = fun e Y => e = .returned (.bool true) ∧ UnI w D bb r (pre ++ [⟨.slice la LN lc, .slice sa SN sc, labs, smps⟩]) Y ∧ KpR w R w6.heap.size X Y := ⟨_, rfl⟩
     rw [← hQ]
     have hre : ({ ({ r with state := .busy } : Loop) with state := .ready, pending := none } : Loop) = r := by rw [← HRR.out]
     obtain ⟨Z0, hZ0⟩ : ∃ Z0, ((X.alloc (.cells #[.slice la LN lc, .slice sa SN sc] 48)).putObj (D + 1) (.loop { r with state := .busy })) = Z0 := ⟨_, rfl⟩
     have hXl := (Array.getElem?_eq_some_iff.1 hX.rcd).1
     have hkA : Kept X (X.alloc (.cells #[.slice la LN lc, .slice sa SN sc] 48)) := (Only.refl _ X).alloc _
     have hra := (hkA.block _ hXl (fun f => f)).trans hX.rcd
     have hO0 : Only (fun k => k = D + 1) X Z0 := by rw [← hZ0]; exact (hkA.mono (fun _ _ f => f.elim)).trans (only_put _) (fun _ _ e => e)
     have hr0 : Z0.heap[D + 1]? = some (.loop { r with state := .busy }) := by rw [← hZ0]; exact World.putObj_heap_same (Array.getElem?_eq_some_iff.1 hra).1
     have hbC : Blk Z0 X.heap.size [.slice la LN lc, .slice sa SN sc] 48 := by
      rw [← hZ0]
      exact (only_put (l := D + 1) (.loop { r with state := .busy })).blk (Blk.new X _ _) (fun e => by omega)
     have hb0 : Blk Z0 bb [.slice ua UN uc] 22 := hO0.blk hbx (fun e => by omega)
     have hser1 : SerAt Z0 (D + 2) (.slice ua UN uc) pre := hser.only hO0 (fun j hj _ e => by omega)
     have hlow : ∀ y ∈ pre, ∀ k, y.has k → k < X0.heap.size := fun y hy k hk => by
      rcases hk with hk | hk
      ·exact (ownN_lt (hser0.lab y hy) hk).2
      ·exact (ownN_lt (hser0.smp y hy) hk).2
     have hZs := hO0.size
     obtain ⟨v', Z1, hrun, hS1, hOn⟩ := serL_app hser1 (by omega) (by omega) ⟨.slice la LN lc, .slice sa SN sc, labs, smps⟩ (ownN_base (ownN_only hlab hO0 (fun j hj e => by have := (ownN_lt hlab hj).1; omega)) (by omega)) (ownN_base (ownN_only hsmp hO0 (fun j hj e => by have := (ownN_lt hsmp hj).1; omega)) (by omega)) (fun y hy k hk hx => by
      have h1 := hlow y hy k hk
      rcases hx with hx | hx
      ·have := (ownN_lt hlab hx).1; omega
      ·have := (ownN_lt hsmp hx).1; omega)
     have hgu : ∀ j, (Value.slice ua UN uc).ownBlock = some j → D + 2 ≤ j := fun j hj => (ownN_lt hser.row hj).1
     have hb1 : Blk Z1 bb [.slice ua UN uc] 22 := hOn.blk hb0 (fun e => by have := hgu _ e; omega)
     obtain ⟨va, vc, hve⟩ := ownN_slice hS1.row
     have HOK2 : Hid (Q (.returned (.bool true)) ((Z1.setCell ⟨bb, 0, none⟩ v').putObj (D + 1) (.loop { ({ r with state := .busy } : Loop) with state := .ready, pending := none })) ∧ (Z1.setCell ⟨bb, 0, none⟩ v').heap[D + 1]? = some (.loop { r with state := .busy })) := by
      have hOs : Only (fun k => k = bb) Z1 (Z1.setCell ⟨bb, 0, none⟩ v') := (Only.refl (fun k => k = bb) Z1).setCell (p := ⟨bb, 0, none⟩) (fun _ => rfl) v'
      have hr1 : Z1.heap[D + 1]? = some (.loop { r with state := .busy }) := (hOn.block _ (Array.getElem?_eq_some_iff.1 hr0).1 (fun e => by have := hgu _ e; omega)).trans hr0
      have hr2 := (hOs.block _ (Array.getElem?_eq_some_iff.1 hr1).1 (by omega)).trans hr1
      refine ⟨?_, hr2⟩
      rw [hre, hQ]
      obtain ⟨Yf, hYf⟩ : ∃ Yf, (Z1.setCell ⟨bb, 0, none⟩ v').putObj (D + 1) (.loop r) = Yf := ⟨_, rfl⟩
      have hOf : Only (fun k => k = D + 1) (Z1.setCell ⟨bb, 0, none⟩ v') Yf := by rw [← hYf]; exact only_put _
      rw [hYf]
      have hall : Only (fun k => k = D + 1 ∨ k = bb ∨ D + 2 ≤ k) X Yf :=
       (((hO0.mono (O' := fun k => k = D + 1 ∨ k = bb ∨ D + 2 ≤ k) (fun _ _ e => .inl e)).trans hOn (fun j _ e => .inr (.inr (hgu j e)))).trans hOs (fun _ _ e => .inr (.inl e))).trans hOf (fun _ _ e => .inl e)
      refine ⟨rfl, ⟨by rw [← hYf]; exact World.putObj_heap_same (Array.getElem?_eq_some_iff.1 hr2).1, (hall.block _ (Array.getElem?_eq_some_iff.1 hX.def_).1 (by omega)).trans hX.def_, hX.kept.trans hall (fun j hj e => by omega), v', hOf.blk (hb1.set 0 v') (fun e => by omega), (hS1.only hOs (fun j hj _ e => by omega)).only hOf (fun j hj _ e => by omega)⟩, hall.mono (fun k _ e => ⟨by omega, by omega, by omega⟩)⟩
     have Hr := hid hrun
     have HQ := hid hQ
     have q0 := hbC.cell 0 rfl
     have q1 := hbC.cell 1 rfl
     have x0 := hb0.cell 0 rfl
     have x1 := hb1.cell 0 rfl
     have x2 := hb1.frozen 0
     have hra2 := hra
     rw [List.length_append, List.length_singleton, hUN] at hve
     subst hve
     refine yield_law (r := r) (fn := Tryz.f39) (by rw [← HRR.out]; exact Tryz.func39) hX.rcd (by rw [← HRR.out]; rfl) ?_
     obtain ⟨BX, hBX⟩ : ∃ B, X.heap.size = B := ⟨_, rfl⟩
     rw [hBX] at q0 q1
     have HDW := hid hDw
     clear hlab hsmp hap hser hser0 hser1 hlow hX0 hX hre hXl hkA hra hO0 hr0 hbC hb0 hS1 hOn hgu hb1 hrun hQ hLN hSN hUN hbx hz0 hz1 hpl hDw hZs hKw hK61 hK2 hK7 hB7 hrc hdf hsz
     rw [← HRR.out]
     dsimp only [loopRec]
     gi_wp2
     refine ⟨by rw [← HRR.out], ?_⟩
     clear hZ0 hra2 hBX
     refine wpIn_block (region_round0 rfl (by rintro ⟨_, _, h⟩; exact h) (by kernel_rfl) ?_)
     go_wp2_with (at_builtin; refine wpList_append_run rfl _ _ _ rfl rfl rfl Hr ?_)
     exact ⟨_, HOK2.out.2, HOK2.out.1⟩
    ·rintro e Y (⟨v, l, rest, rfl, hsk, hY⟩ | ⟨rfl, hsk, pre, hY⟩)
     ·refine ⟨r, hY.rcd, by rw [← HRR.out]; show LoopState.ready ≠ LoopState.busy; decide, by rw [← HRR.out], ?_⟩
      obtain ⟨u, h1, h2⟩ := hY.box
      obtain ⟨YL, hYL⟩ : ∃ YL, Y.putObj (D + 1) (.loop { r with state := .exhausted }) = YL := ⟨_, rfl⟩
      have hOL : Only (fun k => k = D + 1) Y YL := by rw [← hYL]; exact only_put _
      have HBL := hid (hOL.blk h1 (fun e => by omega))
      have HSL := hid (h2.only hOL (fun j hj _ e => by omega))
      have HKL := hid (show Kept w YL from hY.kept.trans hOL (fun j hj e => by omega))
      have HDF := hid (show YL.heap[D]? = some (.deferred (some [])) from (hOL.block D (Array.getElem?_eq_some_iff.1 hY.def_).1 (by omega)).trans hY.def_)
      have HBLK := hid (HBK.out _ hsk)
      have HPK := hid (pack_any YL u (l.map SV.ser) HSL.out.serIn (HRE.out _ HBLK.out) (HT.out.stay HKL.out) (HGG.out.stay HKL.out))
      have hDb : w.heap.size ≤ D := by omega
      have hKD : ∀ (W : World), Kept YL W → P (gaveF 5) (W.putObj D (.deferred none)) ∨ True := fun _ _ => .inr trivial
      obtain ⟨ua, uc, hue⟩ := ownN_slice HSL.out.row
      obtain ⟨UN, hUN⟩ : ∃ n, l.length = n := ⟨_, rfl⟩
      rw [hUN] at hue
      subst hue
      have x0 := HBL.out.cell 0 rfl
      rw [hYL]
      have HDb := hid hDb
      clear hYL h1 h2 hOL hY hsk hKD hUN hDb hDw hKw hK61 hK2 hK7 hB7 hrc hdf hsz hbl hRl
      show wpF _ _ _ _ _ _
      refine wpF_of ?_
      dsimp only
      go_wp2_with fail
      refine HPK.out.mono ?_
      rintro e w9 ⟨k9, ⟨hc0, u9, rfl, hu9⟩ | ⟨hc0, rfl⟩⟩
      ·have HEQ := hid (S.equal_any (own_src hu9) ((HS.out.1.stay HKL.out).stay k9))
       have x9 := (k9.blk HBL.out (fun f => f)).cell 0 rfl
       have HD9 := hid ((k9.block D (Array.getElem?_eq_some_iff.1 HDF.out).1 (fun f => f)).trans HDF.out)
       have K9 := hid (HKL.out.trans k9 (fun _ _ f => f))
       have HS9 := hid (HSL.out.stay k9)
       have HC0 := hid hc0
       obtain ⟨va, vc, hve⟩ := ownN_slice hu9
       obtain ⟨VN, hVN⟩ : ∃ n, (blockB (l.map SV.ser)).length = n := ⟨_, rfl⟩
       rw [hVN] at hve
       subst hve
       clear hu9 k9 hVN x0 HPK hc0
       go_wp2_with fail
       refine HEQ.out.mono ?_
       rintro e w' ⟨hw, ⟨hb, rfl⟩ | ⟨hb, rfl⟩⟩
       ·replace hw := hw.symm
        subst hw
        have HFN := hid (HOK.out (w9.putObj D (.deferred none)) l (.slice ua UN uc) HBLK.out ⟨HC0.out, hb⟩ ((HS9.out.only (only_put (l := D) (.deferred none)) (fun j hj _ e => by omega)).base (by have := HDb.out; omega)) (kept_put K9.out HDb.out _))
        clear hb
        go_wp2_with fail
        refine (refuse_no 5 _).mono ?_
        rintro e w' ⟨rfl, hw⟩
        replace hw := hw.symm
        subst hw
        go_wp2_with fail
        refine ⟨by simp, .inl ⟨_, _, rfl, run_takeDeferred HD9.out, ?_⟩⟩
        exact ⟨_, results_tmp (t := 2) rfl _ _ _, HFN.out⟩
       ·replace hw := hw.symm
        subst hw
        have HFN := hid (HNX.out (w9.putObj D (.deferred none)) l HBLK.out (fun h => hb h.2) (kept_put K9.out HDb.out _))
        clear hb
        go_wp2_with fail
        refine (refuse_yes 5 _).mono ?_
        rintro e w' ⟨rfl, hw⟩
        replace hw := hw.symm
        subst hw
        refine ⟨by simp, .inl ⟨_, _, rfl, run_takeDeferred HD9.out, ?_⟩⟩
        exact HFN.out
      ·have HD9 := hid ((k9.block D (Array.getElem?_eq_some_iff.1 HDF.out).1 (fun f => f)).trans HDF.out)
       have HFN := hid (HNX.out (w9.putObj D (.deferred none)) l HBLK.out (fun h => hc0 h.1) (kept_put (HKL.out.trans k9 (fun _ _ f => f)) HDb.out _))
       obtain ⟨CK, hCK⟩ : ∃ n, checkB (l.map SV.ser) = n := ⟨_, rfl⟩
       rw [hCK] at hc0 ⊢
       have c1 : (CK == 0) = false := by simp; omega
       have c2 : (CK != 0) = true := by simp; omega
       have c3 : ¬ CK = 0 := hc0
       clear k9 x0 HPK hCK hc0
       go_wp2_with fail
       refine (refuse_yes 5 _).mono ?_
       rintro e w' ⟨rfl, hw⟩
       replace hw := hw.symm
       subst hw
       refine ⟨by simp, .inl ⟨_, _, rfl, run_takeDeferred HD9.out, ?_⟩⟩
       exact HFN.out
     ·refine ⟨by simp, .inl ⟨_, _, rfl, run_takeDeferred hY.def_, ?_⟩⟩
      exact HNO.out _ (HBK.out none hsk) (kept_put hY.kept (by omega) _)
end Go.Proofs.YtllfanlhgnkcfaaGreatDoor.K
namespace Go.Proofs.YtllfanlhgnkcfaaGreatDoor.K
open Go.RowKit Go.Proofs.Lys Go.Maps Go.Shelf
open Go.Proofs.YtllfanlhgnkcfaaGreatDoor.N (ownN_slice ownN_lt ownN_only ownN_stay ownN_base ownN_typed ownN_some)
set_option linter.unusedVariables false
set_option linter.unusedSimpArgs false
theorem SersR.inj : ∀ (n : Nat) (bs : List UInt8) (acc : List Ser) {r r' : Option (List Ser × List UInt8)}, SersR n bs acc r → SersR n bs acc r' → r = r'
 | 0, bs, acc, r, r', h, h' => by
  unfold SersR at h h'
  rw [h, h']
 | n + 1, bs, acc, r, r', h, h' => by
  rcases h with ⟨h1, h2⟩ | ⟨m, more, q, h1, hq, h2⟩ <;> rcases h' with ⟨h1', h2'⟩ | ⟨m', more', q', h1', hq', h2'⟩
  ·rw [h2, h2']
  ·rw [h1] at h1'; cases h1'
  ·rw [h1] at h1'; cases h1'
  ·rw [h1] at h1'
   simp only [Option.some.injEq, Prod.mk.injEq] at h1'
   obtain ⟨rfl, rfl⟩ := h1'
   obtain rfl := hq.inj hq'
   rcases h2 with ⟨e, h2⟩ | ⟨l, rest, e, h2⟩ <;> rcases h2' with ⟨e', h2'⟩ | ⟨l', rest', e', h2'⟩
   ·rw [h2, h2']
   ·rw [e] at e'; cases e'
   ·rw [e] at e'; cases e'
   ·rw [e] at e'
    simp only [Option.some.injEq, Prod.mk.injEq] at e'
    obtain ⟨rfl, rfl⟩ := e'
    exact SersR.inj n _ _ h2 h2'
theorem SerK.inj {bs : List UInt8} {r r' : Option (List Ser × List UInt8)} (h : SerK bs r) (h' : SerK bs r') : r = r' := by
 rcases h with ⟨h1, h2⟩ | ⟨n, k, h1, h2⟩ <;> rcases h' with ⟨h1', h2'⟩ | ⟨n', k', h1', h2'⟩
 ·rw [h2, h2']
 ·rw [h1] at h1'; cases h1'
 ·rw [h1] at h1'; cases h1'
 ·rw [h1] at h1'
  simp only [Option.some.injEq, Prod.mk.injEq] at h1'
  obtain ⟨rfl, rfl⟩ := h1'
  exact SersR.inj _ _ _ h2 h2'
theorem BlkK.inj {B : List UInt8} {r r' : Option (List Ser)} (h : BlkK B r) (h' : BlkK B r') : r = r' := by
  rcases h with ⟨h1, h2⟩ | ⟨h1, ⟨h3, h2⟩ | ⟨n, k, h3, ⟨h4, h2⟩ | ⟨n2, k2, q, h4, hq, h2⟩⟩⟩ <;> rcases h' with ⟨g1, g2⟩ | ⟨g1, ⟨g3, g2⟩ | ⟨m, j, g3, ⟨g4, g2⟩ | ⟨m2, j2, q', g4, hq', g2⟩⟩⟩
  all_goals first
    | (rw [h2, g2]; done)
    | (exfalso; omega)
    | (rw [h3] at g3; cases g3; done)
    | skip
  all_goals
    rw [h3] at g3
    simp only [Option.some.injEq, Prod.mk.injEq] at g3
    obtain ⟨rfl, rfl⟩ := g3
    first
      | (rw [h4] at g4; cases g4; done)
      | (rw [h4] at g4
         simp only [Option.some.injEq, Prod.mk.injEq] at g4
         obtain ⟨rfl, rfl⟩ := g4
         rw [h2, g2, hq.inj hq'])
def ReadK (bs : List UInt8) (l : List Ser) : Prop := ∃ N, bs.length = N + 4 ∧ BlkK (bs.take N) (some l) ∧ checkB l = 0 ∧ blockB l = bs
def UnB (w : World) (bs : List UInt8) (e : Ending) (w' : World) : Prop :=
 Kept w w' ∧ (((∀ l, ¬ ReadK bs l) ∧ e = gaveF 5) ∨ ∃ qs v', ReadK bs (qs.map SV.ser) ∧ e = .returned v' ∧ SerAt w' w.heap.size v' qs)
theorem unpacked_all (w : World) (v : Value) (bs : List UInt8) (hs : C.BSrc w v bs) (hl : bs.length ≤ 2000000) (hFi : ∀ N, bs.length = N + 4 → FineB (bs.take N)) (hT : G.Tab w) (hG : ErrT w) (hM : N.Mx w) (hRe : ∀ N l, bs.length = N + 4 → BlkK (bs.take N) (some l) → Reach l) :
  Calls Tryz.prog 39 #[v] w (UnB w bs) := by
 have hno : ∀ N, bs.length = N + 4 → bs.drop N ≠ G.four (G.sumL (bs.take N)) → ∀ l, ¬ ReadK bs l := fun N hN hne l h => by
  obtain ⟨N', h1, _, _, h4⟩ := h
  have hb : bs = bodyB l ++ G.four (G.sumL (bodyB l)) := h4.symm
  have hlen : (bodyB l).length = N := by
   have : bs.length = (bodyB l).length + 4 := by
    conv => lhs; rw [hb]
    rw [List.length_append]
    rfl
   omega
  apply hne
  rw [hb, ← hlen, List.drop_left, List.take_left]
 by_cases h4 : bs.length < 4
 ·obtain ⟨a, c, e, _⟩ := id hs.2
  have HSS := hid (summed_short w v bs ⟨hs.1, hs.2⟩ h4)
  have HF : Hid (∀ w', Kept w w' → UnB w bs (gaveF 5) w') := fun w' k => ⟨k, .inl ⟨fun l h => by obtain ⟨N, h1, _⟩ := h; omega, rfl⟩⟩
  obtain ⟨M, hM2⟩ : ∃ M, bs.length = M := ⟨_, rfl⟩
  rw [hM2] at e
  subst e
  obtain ⟨P, hP⟩ : ∃ P, UnB w bs = P := ⟨_, rfl⟩
  rw [hP] at HF ⊢
  clear hs hl hT hG hM hRe h4 hno hM2 hP hFi
  go_enter Tryz.func39, Tryz.ntmps39
  go_wp2_with fail
  refine HSS.out.mono ?_
  rintro e w' ⟨rfl, hk⟩
  exact ⟨rfl, HF.out _ hk⟩
 ·obtain ⟨N, hN⟩ : ∃ N, bs.length = N + 4 := ⟨bs.length - 4, by omega⟩
  by_cases heq : bs.drop N = G.four (G.sumL (bs.take N))
  ·refine (unpacked_any w v bs hs N hN hl (hFi N hN) hT hG hM heq (fun l h => hRe N l hN h)).mono ?_
   rintro e w' ⟨k, ⟨h1, rfl⟩ | ⟨qs, v', h1, ⟨h2, rfl, h3⟩ | ⟨h2, rfl⟩⟩⟩
   ·refine ⟨k, .inl ⟨fun l h => ?_, rfl⟩⟩
    obtain ⟨N', g1, g2, _⟩ := h
    obtain rfl : N = N' := by omega
    cases h1.inj g2
   ·exact ⟨k, .inr ⟨qs, v', ⟨N, hN, h1, h2⟩, rfl, h3⟩⟩
   ·refine ⟨k, .inl ⟨fun l h => ?_, rfl⟩⟩
    obtain ⟨N', g1, g2, g3⟩ := h
    obtain rfl : N = N' := by omega
    cases h1.inj g2
    exact h2 g3
  ·refine (unpacked_no w v bs ⟨hs.1, hs.2⟩ N hN (by omega) hT heq).mono ?_
   rintro e w' ⟨rfl, k⟩
   exact ⟨k, .inl ⟨hno N hN heq, rfl⟩⟩
end Go.Proofs.YtllfanlhgnkcfaaGreatDoor.K
namespace Go.Proofs.YtllfanlhgnkcfaaGreatDoor.K
open Go.RowKit Go.Proofs.Lys Go.Maps Go.Shelf
open Go.Proofs.YtllfanlhgnkcfaaGreatDoor.N (ownN_slice ownN_lt ownN_only ownN_stay ownN_base ownN_typed ownN_some)
set_option linter.unusedVariables false
set_option linter.unusedSimpArgs false
def UkP (w : World) (bs : List UInt8) (e : Ending) (w' : World) : Prop :=
 Kept w w' ∧ (((∀ l, ¬ ReadK bs l) ∧ e = .returned (.tuple #[.slice none 0 0, .int .i64 5])) ∨ ∃ qs v', ReadK bs (qs.map SV.ser) ∧ e = .returned (.tuple #[v', .int .i64 0]) ∧ SerAt w' w.heap.size v' qs)
set_option maxHeartbeats 1600000 in
theorem unpack_any (w : World) (v : Value) (bs : List UInt8) (hs : C.BSrc w v bs) (hl : bs.length ≤ 2000000) (hFi : ∀ N, bs.length = N + 4 → FineB (bs.take N)) (hT : G.Tab w) (hG : ErrT w) (hM : N.Mx w) (hRe : ∀ N l, bs.length = N + 4 → BlkK (bs.take N) (some l) → Reach l) :
  Calls Tryz.prog 15 #[v] w (UkP w bs) := by
 have hmf : ∀ (fn : Fn) (first cap : Array Value) (w : World), (Instr.makeFunc fn first cap).run Tryz.prog w = .ok (.func fn first cap) w := fun _ _ _ _ => rfl
 obtain ⟨w0, hw0⟩ : ∃ w0, w0 = (w.alloc (.cells #[v] 28)).alloc (.cells #[.slice none 0 0] 22) := ⟨_, rfl⟩
 have k0 : Kept w w0 := by rw [hw0]; exact ((Only.refl _ w).alloc _).alloc _
 have z0 : w0.heap.size = w.heap.size + 2 := by rw [hw0]; simp
 have bl : Blk w0 w.heap.size [v] 28 := by rw [hw0]; exact (Blk.new w _ _).alloc _
 have bb : Blk w0 (w.heap.size + 1) [.slice none 0 0] 22 := by
  rw [hw0]
  have := Blk.new (w.alloc (.cells #[v] 28)) [.slice none 0 0] 22
  simpa using this
 have HUN : Hid (∀ W, Kept w W → Calls Tryz.prog 39 #[v] W (UnB W bs)) := fun W k => unpacked_all W v bs (hs.stay k) hl hFi (hT.stay k) (hG.stay k) (hM.stay k) hRe
 have HU1 : Hid (∀ W, Kept w0 W → Calls Tryz.prog 38 #[.pointer (some ⟨w.heap.size, 0, none⟩), .pointer (some ⟨w.heap.size + 1, 0, none⟩)] W fun e w' =>
   ((∀ l, ¬ ReadK bs l) ∧ e = gaveF 5 ∧ Kept W w') ∨ ∃ qs v', ReadK bs (qs.map SV.ser) ∧ e = .returned (.tuple #[]) ∧ SerAt w' W.heap.size v' qs ∧ Blk w' (w.heap.size + 1) [v'] 22 ∧ Only (fun k => k = w.heap.size + 1) W w') := fun W k => by
  have hc := (k.blk bl (fun f => f)).cell 0 rfl
  have hU := hid (HUN.out W (k0.trans k (fun _ _ f => f)))
  have HBB := hid (k.blk bb (fun f => f))
  have HZ := hid (show w.heap.size + 2 ≤ W.heap.size by have := k.size; omega)
  obtain ⟨R, hR⟩ : ∃ R, (fun (e : Ending) (w' : World) => ((∀ l, ¬ ReadK bs l) ∧ e = gaveF 5 ∧ Kept W w') ∨ ∃ qs v', ReadK bs (qs.map SV.ser) ∧ e = .returned (.tuple #[]) ∧ SerAt w' W.heap.size v' qs ∧ Blk w' (w.heap.size + 1) [v'] 22 ∧ Only (fun k => k = w.heap.size + 1) W w') = R := ⟨_, rfl⟩
  rw [hR]
  have HRR := hid hR
  obtain ⟨a, c, rfl, _⟩ := hs.2
  clear k bl bb k0 z0 hw0 hs hl hT hG hM hRe HUN hR hFi
  go_enter Tryz.func38, Tryz.ntmps38
  go_wp2_with fail
  refine hU.out.mono ?_
  rintro e w' ⟨hk, ⟨hno, rfl⟩ | ⟨qs, v', hrk, rfl, hser⟩⟩
  ·have HF : Hid (R (gaveF 5) w') := by rw [← HRR.out]; exact .inl ⟨hno, rfl, hk⟩
   exact ⟨rfl, HF.out⟩
  ·have hb2 := hk.blk HBB.out (fun f => f)
   have hbc := hb2.cell 0 rfl
   have hbf := hb2.frozen 0
   have hOs : Only (fun k => k = w.heap.size + 1) w' (w'.setCell ⟨w.heap.size + 1, 0, none⟩ v') := (Only.refl (fun k => k = w.heap.size + 1) w').setCell (p := ⟨w.heap.size + 1, 0, none⟩) (fun _ => rfl) v'
   have HF : Hid (R (.returned (.tuple #[])) (w'.setCell ⟨w.heap.size + 1, 0, none⟩ v')) := by
    rw [← HRR.out]
    exact .inr ⟨qs, v', hrk, rfl, hser.only hOs (fun j hj _ e => by have := HZ.out; omega), hb2.set 0 v', (hk.mono (fun _ _ f => f.elim)).trans hOs (fun _ _ e => e)⟩
   obtain ⟨va, vc, hve⟩ := ownN_slice hser.row
   generalize qs.length = VN at hve
   subst hve
   clear hb2 hser hk hOs hc hrk
   go_wp2_with fail
   go_end0
   exact HF.out
 have HAT : Hid (Calls Tryz.prog 20 #[.func (.func 38) #[] #[.pointer (some ⟨w.heap.size, 0, none⟩), .pointer (some ⟨w.heap.size + 1, 0, none⟩)]] w0 fun e w' =>
   Kept w w' ∧ (((∀ l, ¬ ReadK bs l) ∧ e = .returned (.int .i64 5) ∧ Blk w' (w.heap.size + 1) [.slice none 0 0] 22) ∨ ∃ qs v', ReadK bs (qs.map SV.ser) ∧ e = .returned (.int .i64 0) ∧ SerAt w' w.heap.size v' qs ∧ Blk w' (w.heap.size + 1) [v'] 22)) := by
  have k1 : Kept w0 (w0.alloc (.cells #[.int .i64 0] 26)) := (Only.refl _ w0).alloc _
  have hq : Blk (w0.alloc (.cells #[.int .i64 0] 26)) w0.heap.size [.int .i64 0] 26 := Blk.new w0 _ _
  refine (attempt_any w0 38 _ (enters_of Tryz.func38 (by kernel_rfl) rfl)
   (fun w2 => (∃ qs v', ReadK bs (qs.map SV.ser) ∧ SerAt w2 (w0.heap.size + 1) v' qs ∧ Blk w2 (w.heap.size + 1) [v'] 22) ∧ Only (fun k => k = w.heap.size + 1) w0 w2)
   (fun x w2 => (∀ l, ¬ ReadK bs l) ∧ x = 5 ∧ Kept w0 w2) ((HU1.out _ k1).mono ?_)).mono ?_
  ·rintro e w2 (⟨hno, rfl, k2⟩ | ⟨qs, v', hrk, rfl, hser, hb2, ho⟩)
   ·exact ⟨k2.blk hq (fun f => f), .inr ⟨_, rfl, ((hG.stay k0).stay k1).stay k2, hno, rfl, k1.trans k2 (fun _ _ f => f)⟩⟩
   ·exact ⟨ho.blk hq (fun e => by omega), .inl ⟨rfl, ⟨qs, v', hrk, by simpa using hser, hb2⟩, (k1.mono (fun _ _ f => f.elim)).trans ho (fun _ _ e => e)⟩⟩
  ·rintro e w' (⟨rfl, w2, ⟨⟨qs, v', hrk, hser, hb2⟩, ho⟩, hq2⟩ | ⟨x, w2, rfl, ⟨hno, rfl, k2⟩, hq2⟩)
   ·exact ⟨(k0.trans ho (fun j hj e => by omega)).trans hq2 (fun j hj e => by omega), .inr ⟨qs, v', hrk, rfl, (hser.only hq2 (fun j hj _ e => by omega)).base (by omega), hq2.blk hb2 (fun e => by omega)⟩⟩
   ·exact ⟨(k0.trans k2 (fun _ _ f => f)).trans hq2 (fun j hj e => by omega), .inl ⟨hno, rfl, hq2.blk (k2.blk bb (fun f => f)) (fun e => by omega)⟩⟩
 obtain ⟨a, c, rfl, _⟩ := hs.2
 clear hs hl hT hG hM hRe HUN HU1 k0 z0 bl bb hFi
 obtain ⟨R, hR⟩ : ∃ R, UkP w bs = R := ⟨_, rfl⟩
 rw [hR]
 have HRR := hid hR
 clear hR
 go_enter Tryz.func15, Tryz.ntmps15
 go_wp2_with fail
 rw [← hw0]
 clear hw0
 refine HAT.out.mono ?_
 rintro e w1 ⟨k1, ⟨hno, rfl, hub⟩ | ⟨qs, v', hrk, rfl, hser, hub⟩⟩
 ·have hc := hub.cell 0 rfl
  have HFN : Hid (R (.returned (.tuple #[.slice none 0 0, .int .i64 5])) w1) := by rw [← HRR.out]; exact ⟨k1, .inl ⟨hno, rfl⟩⟩
  clear hub k1 hno
  go_wp2_with fail
  exact HFN.out
 ·have hc := hub.cell 0 rfl
  have HFN : Hid (R (.returned (.tuple #[v', .int .i64 0])) w1) := by rw [← HRR.out]; exact ⟨k1, .inr ⟨qs, v', hrk, rfl, hser⟩⟩
  obtain ⟨va, vc, hve⟩ := ownN_slice hser.row
  generalize qs.length = VN at hve
  subst hve
  clear hub k1 hser hrk
  go_wp2_with fail
  exact HFN.out
end Go.Proofs.YtllfanlhgnkcfaaGreatDoor.K
