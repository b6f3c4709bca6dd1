/-
  Write: all rows, or none.
-/
import Derived.Test.YtnbfbnhiikliaaaGreatHmay
namespace Go.Proofs.YtnbfbnhiikliaaaGreat.Hd
open Go.RowKit Go.Proofs.Lys Go.Maps Go.Proofs.YtnbfbnhiikliaaaGreat.N
set_option linter.unusedVariables false
set_option linter.unusedSimpArgs false

def updC (cs : List SerC) (c c' : SerC) : List SerC := cs.map (fun d => if d.b = c.b then c' else d)
theorem apart_inj : ∀ {cs : List SerC}, cs.Pairwise (fun a b => ∀ k, a.has k → ¬ b.has k) → ∀ {a b : SerC}, a ∈ cs → b ∈ cs → ∀ {k : Nat}, a.has k → b.has k → a = b
  | [], _, _, _, h, _, _, _, _ => by cases h
  | z :: r, hp, a, b, ha, hb, k, h1, h2 => by
    have hz := List.pairwise_cons.1 hp
    rcases List.mem_cons.1 ha with e1 | ha'
    · rcases List.mem_cons.1 hb with e2 | hb'
      · rw [e1, e2]
      · exact absurd h2 (hz.1 b hb' k (by rw [← e1]; exact h1))
    · rcases List.mem_cons.1 hb with e2 | hb'
      · exact absurd h1 (hz.1 a ha' k (by rw [← e2]; exact h2))
      · exact apart_inj hz.2 ha' hb' h1 h2
theorem upd_mem {cs : List SerC} (hp : cs.Pairwise (fun a b => ∀ k, a.has k → ¬ b.has k)) {c c' : SerC} (hc : c ∈ cs) (x : SerC) : x ∈ updC cs c c' ↔ x = c' ∨ (x ∈ cs ∧ x.b ≠ c.b) := by
  unfold updC
  rw [List.mem_map]
  constructor
  · rintro ⟨d, hd, rfl⟩
    by_cases e : d.b = c.b
    · rw [if_pos e]; exact .inl rfl
    · rw [if_neg e]; exact .inr ⟨hd, e⟩
  · rintro (rfl | ⟨hx, e⟩)
    · exact ⟨c, hc, by rw [if_pos rfl]⟩
    · exact ⟨x, hx, by rw [if_neg e]⟩
/-- The state behind a put. -/
theorem head_put {w w' : World} {h : HeadC} {O : Nat → Prop} {c : SerC} {x : Smp} {sv' : Value} (hA : HeadAt w h O) (hc : c ∈ h.cs) (hS : SerOk w' ⟨c.b, c.lv, sv', c.labs, putS x c.smps⟩) (k : Only (fun k => k = c.b ∨ c.sv.ownBlock = some k) w w') (hn : ∀ k, sv'.ownBlock = some k → c.sv.ownBlock = some k ∨ w.heap.size ≤ k) :
    HeadAt w' { h with cs := updC h.cs c ⟨c.b, c.lv, sv', c.labs, putS x c.smps⟩ } (OX O w w') := by
  have hsub : ∀ j, (j = c.b ∨ c.sv.ownBlock = some j) → c.has j := fun j hj => hj.imp id .inr
  have hcO : ∀ j, c.has j → O j := fun j hj => hA.own j (.inr (.inr ⟨c, hc, hj⟩))
  have hnew : ∀ j, SerC.has ⟨c.b, c.lv, sv', c.labs, putS x c.smps⟩ j → c.has j ∨ (w.heap.size ≤ j ∧ j < w'.heap.size) := fun j hj => by
    rcases hj with e | e | e
    · exact .inl (.inl e)
    · exact .inl (.inr (.inl e))
    · rcases hn j e with h1 | h1
      · exact .inl (.inr (.inr h1))
      · exact .inr ⟨h1, (ownN_lt hS.smp e).2⟩
  have hother : ∀ d ∈ h.cs, d.b ≠ c.b → ∀ j, d.has j → ¬ c.has j := fun d hd hne j h1 h2 => hne (by rw [apart_inj hA.apart hd hc h1 h2])
  refine ⟨k.blk hA.blk (fun e => hA.hbNe hc (hsub _ e)), ?_, hA.nil, ?_, ?_, ?_, ?_, ?_, ?_, ?_, hA.win0⟩
  · intro mb e
    exact k.map (hA.map mb e) (fun e2 => (hA.mbNe e).2 c hc (hsub _ e2))
  · show h.kv.Perm ((updC h.cs c _).map keyC)
    have e : (updC h.cs c ⟨c.b, c.lv, sv', c.labs, putS x c.smps⟩).map keyC = h.cs.map keyC := by
      unfold updC
      rw [List.map_map]
      refine List.map_congr_left (fun d hd => ?_)
      show keyC (if d.b = c.b then _ else d) = keyC d
      by_cases e : d.b = c.b
      · rw [if_pos e, apart_inj hA.apart hd hc (k := d.b) (.inl rfl) (.inl e)]
        rfl
      · rw [if_neg e]
    rw [e]
    exact hA.perm
  · intro s hs
    rcases (upd_mem hA.apart hc s).1 hs with rfl | ⟨h1, h2⟩
    · exact hS
    · exact (hA.each s h1).only k (fun j hj e => hother s h1 h2 j hj (hsub j e))
  · intro s hs
    rcases (upd_mem hA.apart hc s).1 hs with rfl | ⟨h1, h2⟩
    · exact hA.made c hc
    · exact hA.made s h1
  · show (updC h.cs c _).Pairwise _
    unfold updC
    rw [List.pairwise_map]
    refine List.Pairwise.imp_of_mem ?_ hA.apart
    intro a b ha hb hab j h1 h2
    by_cases ea : a.b = c.b
    · rw [if_pos ea] at h1
      by_cases eb : b.b = c.b
      · exact hab a.b (.inl rfl) (.inl (by rw [ea, eb]))
      · rw [if_neg eb] at h2
        rcases hnew j h1 with h3 | h3
        · exact hother b hb eb j h2 h3
        · have := (hA.each b hb).lt h2; omega
    · rw [if_neg ea] at h1
      by_cases eb : b.b = c.b
      · rw [if_pos eb] at h2
        rcases hnew j h2 with h3 | h3
        · exact hother a ha ea j h1 h3
        · have := (hA.each a ha).lt h1; omega
      · rw [if_neg eb] at h2
        exact hab j h1 h2
  · show (updC h.cs c _).Pairwise _
    unfold updC
    rw [List.pairwise_map]
    refine List.Pairwise.imp_of_mem ?_ hA.texts
    intro a b ha hb hab
    have key : ∀ d ∈ h.cs, (if d.b = c.b then (⟨c.b, c.lv, sv', c.labs, putS x c.smps⟩ : SerC) else d).labs = d.labs := fun d hd => by
      by_cases e : d.b = c.b
      · rw [if_pos e, apart_inj hA.apart hd hc (k := d.b) (.inl rfl) (.inl e)]
      · rw [if_neg e]
    rw [key a ha, key b hb]
    exact hab
  · rintro j (e | e | ⟨s, hs, hj⟩)
    · exact .inl (hA.own j (.inl e))
    · exact .inl (hA.own j (.inr (.inl e)))
    · rcases (upd_mem hA.apart hc s).1 hs with rfl | ⟨h1, h2⟩
      · rcases hnew j hj with h3 | h3
        · exact .inl (hcO j h3)
        · exact .inr h3
      · exact .inl (hA.own j (.inr (.inr ⟨s, h1, hj⟩)))
  · rintro j (h1 | h1)
    · exact Nat.lt_of_lt_of_le (hA.lt j h1) k.size
    · exact h1.2
theorem is_put {w w1 : World} {h h' : HeadC} {O O' : Nat → Prop} {M : Mod} {l : Labs} {c : SerC} (hI : Is h M) (hA : HeadAt w h O) (hA' : HeadAt w1 h' O') (hc : c ∈ h'.cs) (hl : c.labs = l) (hm : Made l) (hcs : (h'.cs = h.cs) ∨ (h'.cs = h.cs ++ [c] ∧ c.smps = [] ∧ ∀ d ∈ h.cs, textL d.labs ≠ textL l)) {x : Smp} (hx : -9007199254740992 ≤ x.1 ∧ x.1 ≤ 9007199254740992) (hn : lookM M l = none → M.length < 1000) (sv' : Value) :
    (lookM M l).getD [] = c.smps ∧ (RiseS c.smps) ∧ ∀ N, N = setM l (putS x ((lookM M l).getD [])) M → Is { h' with cs := updC h'.cs c ⟨c.b, c.lv, sv', c.labs, putS x c.smps⟩ } N := by
  subst hl
  have hget : (lookM M c.labs).getD [] = c.smps := by
    rcases hcs with e | ⟨e, e2, e3⟩
    · rw [Is.look (w := w) (O := O) hI (by rw [← e]; exact hc)]; rfl
    · rw [hI.lookNone e3, e2]; rfl
  have hrise : RiseS c.smps := by
    rcases hcs with e | ⟨e, e2, e3⟩
    · exact hI.ok.rise _ (hI.perm.mem_iff.1 (List.mem_map.2 ⟨c, by rw [← e]; exact hc, rfl⟩))
    · rw [e2]; exact List.Pairwise.nil
  refine ⟨hget, hrise, fun N hN => ?_⟩
  have hok := hI.ok.set hm hx hn
  rw [hget] at hok hN
  subst hN
  refine ⟨perm_mem ?_ (sort_nodup hok.sort) (fun y => ?_), hok⟩
  · show ((updC h'.cs c _).map serC).Nodup
    unfold List.Nodup updC
    rw [List.map_map, List.pairwise_map]
    refine List.Pairwise.imp_of_mem ?_ hA'.texts
    intro a b ha hb hab e
    have key : ∀ d ∈ h'.cs, (serC (if d.b = c.b then (⟨c.b, c.lv, sv', c.labs, putS x c.smps⟩ : SerC) else d)).1 = d.labs := fun d hd => by
      by_cases e : d.b = c.b
      · rw [if_pos e, apart_inj hA'.apart hd hc (k := d.b) (.inl rfl) (.inl e)]; rfl
      · rw [if_neg e]; rfl
    have e1 := congrArg Prod.fst e
    have e2 : a.labs = b.labs := (key a ha).symm.trans (e1.trans (key b hb))
    exact hab (by rw [e2])
  · rw [setM_mem hI.ok.sort]
    have hmemI : ∀ z, z ∈ M ↔ ∃ d ∈ h.cs, serC d = z := fun z => by rw [← hI.perm.mem_iff, List.mem_map]
    show y ∈ (updC h'.cs c _).map serC ↔ _
    rw [List.mem_map]
    constructor
    · rintro ⟨d, hd, rfl⟩
      rcases (upd_mem hA'.apart hc d).1 hd with rfl | ⟨h1, h2⟩
      · exact .inl rfl
      · have hne : d.labs ≠ c.labs := fun e => h2 (by rw [pw_inj hA'.texts h1 hc (by rw [e])])
        refine .inr ⟨(hmemI _).2 ⟨d, ?_, rfl⟩, hne⟩
        rcases hcs with e | ⟨e, e2, e3⟩
        · rw [← e]; exact h1
        · rw [e] at h1
          rcases List.mem_append.1 h1 with h3 | h3
          · exact h3
          · rw [List.mem_singleton.1 h3] at h2
            exact absurd rfl h2
    · rintro (rfl | ⟨h1, h2⟩)
      · exact ⟨_, (upd_mem hA'.apart hc _).2 (.inl rfl), rfl⟩
      · obtain ⟨d, hd, rfl⟩ := (hmemI _).1 h1
        have hd' : d ∈ h'.cs := by
          rcases hcs with e | ⟨e, e2, e3⟩
          · rw [e]; exact hd
          · rw [e]; exact List.mem_append.2 (.inl hd)
        refine ⟨d, (upd_mem hA'.apart hc d).2 (.inr ⟨hd', fun e => ?_⟩), rfl⟩
        have := apart_inj hA'.apart hd' hc (k := d.b) (.inl rfl) (.inl e)
        rw [this] at h2
        exact h2 rfl

theorem at_any {w : World} {h : HeadC} {O : Nat → Prop} (hA : HeadAt w h O) (hMx : Mx w) {l : Labs} (hl : Made l) (hG : ¬ O 0) (hlen : h.kv.length < 100000) :
    Calls Tryz.prog 36 #[.pointer (some ⟨h.hb, 0, none⟩), .string (mkB (textL l))] w fun e w' => ∃ h' c, e = .returned (.pointer (some ⟨c.b, 0, none⟩)) ∧ AtP w h O l h' c w' := by
  rcases hA.find (textL l) with ⟨c, hc, ht, hg⟩ | ⟨hno, hg⟩
  · refine (at_yes hA (mkB (textL l)) (by rw [mkB_size]; have := text_len hl; omega) (c := c) (by rw [mkB_data]; exact hg)).mono ?_
    rintro e w' ⟨rfl, rfl⟩
    exact ⟨h, c, rfl, ⟨hA.more (fun j hj => .inl hj) (fun j hj => by rcases hj with h1 | h1; exact hA.lt j h1; exact h1.2), Only.refl _ _, rfl, rfl, hc, text_inj (hA.made c hc) hl ht, .inl rfl⟩⟩
  · exact at_no hA hMx hl hG hno hg hlen

theorem row_err {win : Int} {M : Mod} {r : Row} {n : Int} (h : rowM win M r = .error n) : n ≠ 0 := by
  unfold rowM at h
  split at h
  · cases h; decide
  · split at h
    · cases h; decide
    · split at h
      · split at h
        · cases h; decide
        · cases h
      · split at h
        · cases h; decide
        · cases h
theorem rows_err0 {win : Int} {rs : List Row} : ∀ {M : Mod} {n : Int}, rowsM win M rs = .error n → n ≠ 0 := by
  induction rs with
  | nil => intro M n h; cases h
  | cons r rs ih =>
    intro M n h
    rw [rowsM] at h
    cases hr : rowM win M r with
    | error x => rw [hr] at h; cases h; exact row_err hr
    | ok K => rw [hr] at h; exact ih h
theorem write_err {win : Int} {M : Mod} {rs : List Row} {n : Int} (h : writeM win M rs = .error n) : n ≠ 0 := by
  unfold writeM at h
  split at h
  · cases h; decide
  · split at h
    · cases h; decide
    · exact rows_err0 h
theorem row_mid {win : Int} {M N N' : Mod} {rs : List Row} {k : Nat} (hk : k < rs.length) (h : rowsM win M rs = .ok N) (h' : rowsM win M (rs.take k) = .ok N') : ∃ K, rowM win N' rs[k] = .ok K := by
  cases hr : rowM win N' rs[k] with
  | error e => rw [rows_err hk h' hr] at h; cases h
  | ok K => exact ⟨K, rfl⟩
/-- What Write leaves. -/
structure WriteP (w : World) (h : HeadC) (O : Nat → Prop) (M : Mod) (h' : HeadC) (w' : World) : Prop where
  at_ : HeadAt w' h' (OX O w w')
  is_ : Is h' M
  only : Only O w w'
  hb : h'.hb = h.hb
  win : h'.win = h.win

set_option maxRecDepth 100000 in
set_option maxHeartbeats 4000000 in
theorem write_any {w : World} {h : HeadC} {O : Nat → Prop} {M : Mod} (hA : HeadAt w h O) (hI : Is h M) (hc : countM M ≤ 90000) (hMx : Mx w) (hG : ¬ O 0 ∧ 0 < w.heap.size) (v : Value) (rs : List Row) (hs : RowSrc w (fun j => ¬ O j) v rs) (hR : RowsOk rs) :
    Calls Tryz.prog 13 #[.pointer (some ⟨h.hb, 0, none⟩), v] w fun e w' => e = .returned (.int .i64 (errM (writeM h.win M rs))) ∧ ∃ h', WriteP w h O (modM M (writeM h.win M rs)) h' w' := by
  have HM := hid (may_any hA hI (by omega) v rs hs hR)
  obtain ⟨a1, c1, rfl⟩ := hs.len
  have HS := hid hs.lt
  have HA := hid hA
  have HI := hid hI
  have HR := hid hR
  have HC := hid hc
  have HMX := hid hMx
  have HG := hid hG
  clear hs
  obtain ⟨L, hL⟩ : ∃ L, rs.length = L := ⟨_, rfl⟩
  have HL := hid hL
  rw [hL] at HS HM ⊢
  have hLb : L ≤ 100000 := by have := hR.1; omega
  clear hL hA hI hR hc hMx hG
  cases hwm : writeM h.win M rs with
  | error n =>
    have hn := write_err hwm
    have HE : Hid (errM (writeM h.win M rs) = n) := by rw [hwm]; rfl
    clear hwm
    generalize hhb : h.hb = hb at *
    generalize h.win = win at *
    have HHB := hid hhb
    clear hhb
    go_enter Tryz.func13, Tryz.ntmps13
    go_wp2_with fail
    refine HM.out.mono ?_
    rintro e w1 ⟨rfl, k1⟩
    rw [HE.out]
    have HK1 := hid k1
    clear k1 HM HE
    go_wp2
    go_ret
    refine ⟨rfl, h, ⟨(HA.out.stay HK1.out).more (fun j hj => .inl hj) (fun j hj => ?_), HI.out, HK1.out.mono (fun _ _ f => f.elim), rfl, rfl⟩⟩
    rcases hj with h1 | h1
    · exact Nat.lt_of_lt_of_le (HA.out.lt j h1) HK1.out.size
    · exact h1.2
  | ok N =>
    have hrows : rowsM h.win M rs = .ok N ∧ L ≤ 200 := by
      unfold writeM at hwm
      split at hwm
      · cases hwm
      · split at hwm
        · cases hwm
        · exact ⟨hwm, by have := HL.out; omega⟩
    have HE : Hid (errM (writeM h.win M rs) = 0) := by rw [hwm]; rfl
    have HRW := hid hrows.1
    have hL200 := hrows.2
    clear hrows hwm
    generalize hhb : h.hb = hb at *
    generalize hwn : h.win = win at *
    have HHB := hid hhb
    have HWN := hid hwn
    clear hhb hwn
    go_enter Tryz.func13, Tryz.ntmps13
    go_wp2_with fail
    refine HM.out.mono ?_
    rintro e w1 ⟨rfl, k1⟩
    rw [HE.out]
    have HK1 := hid k1
    clear k1 HM HE
    go_wp2
    go_loopw [16] (fun s wr => ∃ (k : Nat) (N' : Mod) (h' : HeadC), k ≤ L ∧ s = .int .i64 (k : Int) ∧ rowsM win M (rs.take k) = .ok N' ∧ WriteP w h O N' h' wr) (fun s _ => L - (intOf s).toNat)
    case atStart =>
      refine ⟨0, M, h, by omega, rfl, rfl, ⟨(HA.out.stay HK1.out).more (fun j hj => .inl hj) (fun j hj => ?_), HI.out, HK1.out.mono (fun _ _ f => f.elim), rfl, rfl⟩⟩
      rcases hj with h1 | h1
      · exact Nat.lt_of_lt_of_le (HA.out.lt j h1) HK1.out.size
      · exact h1.2
    case round =>
      obtain ⟨k, N', h', hk, rfl, hrk, hP⟩ := hrel
      have HP := hid hP
      have HRK := hid hrk
      clear hrk
      by_cases hlt : k < L
      · have hkl : k < rs.length := by have := HL.out; omega
        obtain ⟨b1, o1, lv, rfl, x0, x1, x2, hlv, _⟩ := (HS.out.only hP.only (fun j hj => hj.1)).cell HL.out k hlt
        obtain ⟨a3, c3, rfl⟩ := hlv.len
        obtain ⟨hl1, hl2⟩ := HR.out.2 _ (List.getElem_mem hkl)
        obtain ⟨K, hK⟩ := row_mid hkl HRW.out HRK.out
        have HST := hid (rows_step hkl HRK.out hK)
        have hcn := countM_rows HI.out.ok HRK.out
        have HLV := hid hlv
        have hcN : countM N' ≤ 95000 := by have := HC.out; rw [List.length_take] at hcn; omega
        have HKK := hid hK
        clear hP hlv hK hcn
        generalize rs[k]'hkl = r at x0 x1 x2 HLV hl1 hl2 HKK
        obtain ⟨rl, rt, rv⟩ := r
        simp only at x0 x1 x2 HLV hl1 hl2
        obtain ⟨l, hml, ht1, ht2, hKe, _, hfull⟩ := rowM_ok HP.out.is_.ok HKK.out
        simp only at hml ht1 ht2 hKe
        have hmade := makeL_made hml
        have htx : txtB rl = mkB (textL l) := by unfold txtB; rw [hml]
        -- the row's own block
        obtain ⟨w2, hw2⟩ : ∃ w2, w2 = wr.alloc (.cells #[.slice a3 rl.length c3, .int .i64 rt, .int .i64 rv] 40) := ⟨_, rfl⟩
        have k2 : Kept wr w2 := by rw [hw2]; exact (Only.refl _ wr).alloc _
        have br : Blk w2 wr.heap.size [.slice a3 rl.length c3, .int .i64 rt, .int .i64 rv] 40 := by rw [hw2]; exact Blk.new wr _ _
        have hwz := HP.out.only.size
        have hmx : Mx wr := Mx.only HMX.out HP.out.only HG.out.1
        have HT := hid (text_any w2.drew _ rl (HLV.out.stay k2.drew) hl1 hl2)
        rw [htx] at HT
        have hHd : HeadAt w2.drew h' (OX O w wr) := HP.out.at_.stay k2.drew
        have HHd := hid hHd
        have HMX2 := hid (hmx.stay k2.drew)
        have hGG : Hid (¬ OX O w wr 0) := fun hh => by
          rcases hh with h1 | h1
          · exact HG.out.1 h1
          · have := HG.out.2; omega
        have hkvl : h'.kv.length < 100000 := by
          have h1 := HP.out.at_.len
          have h2 := HP.out.is_.len
          have h3 := HP.out.is_.ok.len
          omega
        have HAt := hid (fun W (hW : Kept w2.drew W) => at_any (HHd.out.stay hW) (HMX2.out.stay hW) hmade hGG.out hkvl)
        rw [HP.out.hb, HHB.out] at HAt
        have BR := hid br
        have HKe := hid hKe
        have hrbO : Hid (¬ OX O w wr wr.heap.size) := fun hh => by
          rcases hh with h1 | h1
          · have := HA.out.lt _ h1; omega
          · omega
        have HRB := hid (show wr.heap.size < w2.heap.size from br.lt)
        have hK2 := hid k2
        clear k2 br HLV hHd hmx hKe htx
        subst hw2
        generalize hrn : rl.length = rn at *
        obtain ⟨rb, hrb⟩ : ∃ rb, wr.heap.size = rb := ⟨_, rfl⟩
        rw [hrb] at BR HRB hrbO
        go_wp2_with fail
        (try rw [hrb])
        generalize wr.alloc (.cells #[.slice a3 rn c3, .int .i64 rt, .int .i64 rv] 40) = w3 at HT HHd HMX2 HAt BR HRB hK2 ⊢
        refine wp_region_noPanic ?_
        refine wp_region_last (L := 1000) (S := fun w' => Blk w' rb [.slice a3 rn c3, .int .i64 rt, .int .i64 rv] 40) (by kernel_rfl) ?_
        have hS : (fun w' : World => Blk w' rb [.slice a3 rn c3, .int .i64 rt, .int .i64 rv] 40) w3.drew := BR.out
        refine wpAnyN_take (i := 0) (v := .pointer (some ⟨hb, 0, none⟩)) rfl (by kernel_rfl) (by kernel_rfl) (by kernel_rfl) (by decide) (by kernel_rfl) (fun _ _ _ h => h) (Or.inl ⟨by rfl, ?_⟩) hS ?_
        · (intro w' hSw; have s0 := hSw.cell 0 rfl; have s1 := hSw.cell 1 rfl; have s2 := hSw.cell 2 rfl; clear hSw; go_simp)
        go_frame
        refine wpAnyN_take (i := 1) (v := .pointer (some ⟨rb, 0, none⟩)) rfl (by kernel_rfl) (by kernel_rfl) (by kernel_rfl) (by decide) (by kernel_rfl) (fun _ _ _ h => h) (Or.inl ⟨by rfl, ?_⟩) hS ?_
        · (intro w' hSw; have s0 := hSw.cell 0 rfl; have s1 := hSw.cell 1 rfl; have s2 := hSw.cell 2 rfl; clear hSw; go_simp)
        go_frame
        refine wpAnyN_take (i := 2) (v := .slice a3 rn c3) rfl (by kernel_rfl) (by kernel_rfl) (by kernel_rfl) (by decide) (by kernel_rfl) (fun _ _ _ h => h) (Or.inl ⟨by rfl, ?_⟩) hS ?_
        · (intro w' hSw; have s0 := hSw.cell 0 rfl; have s1 := hSw.cell 1 rfl; have s2 := hSw.cell 2 rfl; clear hSw; go_simp)
        go_frame
        refine wpAnyN_take (i := 5) (v := .pointer (some ⟨rb, 1, none⟩)) rfl (by kernel_rfl) (by kernel_rfl) (by kernel_rfl) (by decide) (by kernel_rfl) (fun _ _ _ h => h) (Or.inl ⟨by rfl, ?_⟩) hS ?_
        · (intro w' hSw; have s0 := hSw.cell 0 rfl; have s1 := hSw.cell 1 rfl; have s2 := hSw.cell 2 rfl; clear hSw; go_simp)
        go_frame
        refine wpAnyN_take (i := 6) (v := .agg #[.int .i64 rt, .int .i64 rv]) rfl (by kernel_rfl) (by kernel_rfl) (by kernel_rfl) (by decide) (by kernel_rfl) (fun _ _ _ h => h) (Or.inl ⟨by rfl, ?_⟩) hS ?_
        · (intro w' hSw; have s0 := hSw.cell 0 rfl; have s1 := hSw.cell 1 rfl; have s2 := hSw.cell 2 rfl; clear hSw; go_simp)
        go_frame
        refine wpAnyL_one (i := 3) (by kernel_rfl) rfl rfl ?_
        go_simp
        refine HT.out.mono ?_
        rintro e w4 ⟨rfl, k4⟩
        have b4 := k4.blk (show Blk w3.drew rb _ _ from BR.out) (fun f => f)
        refine ⟨b4, ?_⟩
        (try go_frame)
        refine wpAnyL_one (i := 4) (by kernel_rfl) rfl rfl ?_
        go_simp
        refine (HAt.out w4 k4).mono ?_
        rintro e w5 ⟨h5, c, rfl, hat5⟩
        have b5 := hat5.only.blk b4 hrbO.out
        refine ⟨b5, ?_⟩
        (try go_frame)
        refine wpAnyL_one (i := 7) (by kernel_rfl) rfl rfl ?_
        go_simp
        obtain ⟨hget, hrise, hIs⟩ := is_put HP.out.is_ (HHd.out.stay k4) hat5.at_ hat5.mem hat5.labs hmade hat5.cs (x := (rt, rv)) ⟨ht1, ht2⟩ hfull (.slice none 0 0)
        have hclen : c.smps.length ≤ 100000 := by
          rw [← hget]
          cases hlk : lookM N' l with
          | none => simp
          | some s =>
            have : s.length ≤ countM N' := countM_mem (x := (l, s)) ((look_some HP.out.is_.ok.sort).1 hlk)
            simp only [Option.getD_some]
            omega
        refine (put_any w5 c (hat5.at_.each c hat5.mem) hrise hclen (rt, rv)).mono ?_
        rintro e w6 ⟨rfl, sv', hS6, k6, hn6⟩
        have hcO5 : ∀ j, (j = c.b ∨ c.sv.ownBlock = some j) → OX (OX O w wr) w4 w5 j := fun j hj => hat5.at_.own j (.inr (.inr ⟨c, hat5.mem, hj.imp id .inr⟩))
        have hrb4 : rb < w4.heap.size := b4.lt
        have b6 := k6.blk b5 (fun hh => by
          rcases hcO5 _ hh with h1 | h1
          · exact hrbO.out h1
          · omega)
        refine ⟨b6, ?_⟩
        (try go_frame)
        refine wpAnyN_done (by kernel_rfl) ?_
        refine NoPanic.normal ?_
        obtain ⟨_, _, hIs6⟩ := is_put HP.out.is_ (HHd.out.stay k4) hat5.at_ hat5.mem hat5.labs hmade hat5.cs (x := (rt, rv)) ⟨ht1, ht2⟩ hfull sv'
        have hIs7 := hIs6 K HKe.out
        have hH6 := head_put hat5.at_ hat5.mem hS6 k6 hn6
        have hsz3 : wr.heap.size ≤ w3.heap.size := hK2.out.size
        have hsz4 := k4.size
        have hsz5 := hat5.only.size
        have hsz6 := k6.size
        have hsz43 : w3.heap.size ≤ w4.heap.size := hsz4
        have hO6 : ∀ j, OX (OX (OX O w wr) w4 w5) w5 w6 j → OX O w w6 j := fun j hj => by
          rcases hj with ((h1 | h1) | h1) | h1
          · exact .inl h1
          · exact .inr (by omega)
          · exact .inr (by omega)
          · exact .inr (by omega)
        have hH7 := hH6.more hO6 (fun j hj => by
          rcases hj with h1 | h1
          · have := HA.out.lt j h1; omega
          · exact h1.2)
        have hOnly : Only O w w6 := by
          have e1 : Only O w w4 := HP.out.only.trans (hK2.out.drew.trans k4 (fun _ _ f => f)) (fun _ _ f => f.elim)
          have e2 : Only O w w5 := e1.trans hat5.only (fun j hj h1 => by
            rcases h1 with h1 | h1
            · exact h1
            · omega)
          exact e2.trans k6 (fun j hj h1 => by
            rcases hcO5 j h1 with (h2 | h2) | h2
            · exact h2
            · omega
            · omega)
        have HW := hid (show WriteP w h O K { h5 with cs := updC h5.cs c ⟨c.b, c.lv, sv', c.labs, putS (rt, rv) c.smps⟩ } w6 from ⟨hH7, hIs7, hOnly, hat5.hb.trans HP.out.hb, hat5.win.trans HP.out.win⟩)
        clear hH7 hIs7 hOnly hH6 hIs6 hIs b4 b5 b6 hS6 k6 hn6 hat5 k4 hcO5 hO6 hrise hget hclen hS
        go_wp2
        refine ⟨⟨k + 1, K, _, by omega, by go_num, HST.out, HW.out⟩, ?_⟩
        simp [intOf]
        omega
      · have e : k = L := by omega
        subst e
        go_wp2
        go_ret
        have h1 := HRK.out
        rw [List.take_of_length_le (by have := HL.out; omega), HRW.out] at h1
        cases h1
        exact ⟨rfl, h', HP.out⟩
end Go.Proofs.YtnbfbnhiikliaaaGreat.Hd
