/-
  look: the first row that can't be, those ahead of it being taken as written.
-/
import Derived.Test.YtnbfbnhiikliaaaGreatHat
namespace Go.Proofs.YtnbfbnhiikliaaaGreat.Hd
open Go.RowKit Go.Proofs.Lys Go.Maps Go.Proofs.YtnbfbnhiikliaaaGreat.N
set_option linter.unusedVariables false
set_option linter.unusedSimpArgs false

theorem mkB_data (l : List UInt8) : (mkB l).data.toList = l := by simp
/-- The block that a slice lies in. -/
def InZ (Z : Nat → Prop) (v : Value) : Prop := ∀ a n c, v = .slice (some a) n c → n ≠ 0 → Z a.block
/-- Rows that are read, in blocks of Z. -/
def RowSrc (w : World) (Z : Nat → Prop) (v : Value) (rs : List Row) : Prop :=
  (∃ a c, v = .slice a 0 c ∧ rs = []) ∨
  (0 < rs.length ∧ ∃ b o c, v = .slice (some ⟨b, o, none⟩) rs.length c ∧ Z b ∧ ∀ i (hi : i < rs.length), ∃ lv, w.cell? ⟨b, o + i * 3, none⟩ = some lv ∧ w.cell? ⟨b, o + i * 3 + 1, none⟩ = some (.int .i64 rs[i].2.1) ∧ w.cell? ⟨b, o + i * 3 + 2, none⟩ = some (.int .i64 rs[i].2.2) ∧ LabSrc w lv rs[i].1 ∧ InZ Z lv)
theorem only_cell {w W : World} {O : Nat → Prop} (k : Only O w W) {a : Addr} (hO : ¬ O a.block) {u : Value} (h : w.cell? a = some u) : W.cell? a = some u := by
  rw [World.cell?_of_block (w := w) (w' := W) (a := a) (k.block a.block (World.block_lt_of_cell? w a h) hO)]
  exact h
theorem LabSrc.only {w W : World} {O : Nat → Prop} {v : Value} {l : Labs} (h : LabSrc w v l) (k : Only O w W) (hO : InZ (fun j => ¬ O j) v) : LabSrc W v l := by
  rcases h with h | ⟨h0, b, o, c, rfl, hc⟩
  · exact .inl h
  · have hb : ¬ O b := hO _ _ _ rfl (by omega)
    exact .inr ⟨h0, b, o, c, rfl, fun i hi => ⟨only_cell k hb (hc i hi).1, only_cell k hb (hc i hi).2⟩⟩
theorem RowSrc.only {w W : World} {O Z : Nat → Prop} {v : Value} {rs : List Row} (h : RowSrc w Z v rs) (k : Only O w W) (hO : ∀ j, Z j → ¬ O j) : RowSrc W Z v rs := by
  rcases h with h | ⟨h0, b, o, c, rfl, hZ, hc⟩
  · exact .inl h
  · refine .inr ⟨h0, b, o, c, rfl, hZ, fun i hi => ?_⟩
    obtain ⟨lv, h1, h2, h3, h4, h5⟩ := hc i hi
    have hb := hO b hZ
    exact ⟨lv, only_cell k hb h1, only_cell k hb h2, only_cell k hb h3, LabSrc.only h4 k (fun a n c e hn => hO _ (h5 a n c e hn)), h5⟩
theorem RowSrc.stay {w W : World} {Z : Nat → Prop} {v : Value} {rs : List Row} (h : RowSrc w Z v rs) (k : Kept w W) : RowSrc W Z v rs := h.only k (fun _ _ f => f)
theorem RowSrc.lt {w : World} {Z : Nat → Prop} {v : Value} {rs : List Row} (h : RowSrc w Z v rs) : RowSrc w (fun j => Z j ∧ j < w.heap.size) v rs := by
  rcases h with h | ⟨h0, b, o, c, rfl, hZ, hc⟩
  · exact .inl h
  · obtain ⟨lv0, h01, _⟩ := hc 0 h0
    refine .inr ⟨h0, b, o, c, rfl, ⟨hZ, World.block_lt_of_cell? w _ h01⟩, fun i hi => ?_⟩
    obtain ⟨lv, h1, h2, h3, h4, h5⟩ := hc i hi
    refine ⟨lv, h1, h2, h3, h4, fun a n c e hn => ⟨h5 a n c e hn, ?_⟩⟩
    rcases h4 with ⟨a', c', e', _⟩ | ⟨hp, b', o', c', e', hcc⟩
    · rw [e] at e'
      cases e'
      exact absurd rfl hn
    · rw [e] at e'
      cases e'
      exact World.block_lt_of_cell? w _ (hcc 0 hp).1
theorem RowSrc.weak {w : World} {Z Z' : Nat → Prop} {v : Value} {rs : List Row} (h : RowSrc w Z v rs) (hz : ∀ j, Z j → Z' j) : RowSrc w Z' v rs := by
  rcases h with h | ⟨h0, b, o, c, rfl, hZ, hc⟩
  · exact .inl h
  · refine .inr ⟨h0, b, o, c, rfl, hz b hZ, fun i hi => ?_⟩
    obtain ⟨lv, h1, h2, h3, h4, h5⟩ := hc i hi
    exact ⟨lv, h1, h2, h3, h4, fun a n c e hn => hz _ (h5 a n c e hn)⟩
theorem RowSrc.len {w : World} {Z : Nat → Prop} {v : Value} {rs : List Row} (h : RowSrc w Z v rs) : ∃ a c, v = .slice a rs.length c := by
  rcases h with ⟨a, c, rfl, rfl⟩ | ⟨_, b, o, c, rfl, _⟩
  · exact ⟨a, c, rfl⟩
  · exact ⟨_, c, rfl⟩
theorem RowSrc.cell {w : World} {Z : Nat → Prop} {a : Option Addr} {c M : Nat} {rs : List Row} (h : RowSrc w Z (.slice a M c) rs) (hM : rs.length = M) (k : Nat) (hk : k < M) : ∃ b o lv, a = some ⟨b, o, none⟩ ∧ w.cell? ⟨b, o + k * 3, none⟩ = some lv ∧ w.cell? ⟨b, o + k * 3 + 1, none⟩ = some (.int .i64 (rs[k]'(by omega)).2.1) ∧ w.cell? ⟨b, o + k * 3 + 2, none⟩ = some (.int .i64 (rs[k]'(by omega)).2.2) ∧ LabSrc w lv (rs[k]'(by omega)).1 ∧ InZ Z lv := by
  rcases h with ⟨a, c, e, e2⟩ | ⟨hpos, b, o, c, e1, hZ, hc⟩
  · subst e2
    simp at hM
    omega
  · rw [hM] at e1
    cases e1
    obtain ⟨lv, h1⟩ := hc k (by omega)
    exact ⟨b, o, lv, rfl, h1⟩
/-- Rows of bounded size. -/
def RowsOk (rs : List Row) : Prop := rs.length ≤ 100000 ∧ ∀ r ∈ rs, r.1.length ≤ 100000 ∧ Small r.1

/-- What look knows behind k rows. -/
structure LookI (M N : Mod) (A : KV) (win : Int) (rs : List Row) (k : Nat) : Prop where
  rows : rowsM win M (rs.take k) = .ok N
  ok : ModOk N
  yes : ∀ l t, Made l → kvGet A (textL l) = some t → ∃ s, lookM N l = some s ∧ lastT s = t
  no : ∀ l, Made l → kvGet A (textL l) = none → lookM N l = lookM M l
theorem take_row {rs : List Row} {k : Nat} (hk : k < rs.length) : rs.take (k + 1) = rs.take k ++ [rs[k]] := by rw [List.take_append_getElem hk]
theorem rows_err {win : Int} {M N : Mod} {rs : List Row} {k : Nat} (hk : k < rs.length) (h : rowsM win M (rs.take k) = .ok N) {e : Int} (he : rowM win N rs[k] = .error e) : rowsM win M rs = .error e := by
  have e1 : rs = rs.take k ++ (rs[k] :: rs.drop (k + 1)) := by rw [← List.drop_eq_getElem_cons hk, List.take_append_drop]
  rw [e1, rowsM_app, h]
  show (match rowM win N rs[k] with | .error e => Except.error e | .ok N' => rowsM win N' (rs.drop (k + 1))) = _
  rw [he]
theorem rows_step {win : Int} {M N N' : Mod} {rs : List Row} {k : Nat} (hk : k < rs.length) (h : rowsM win M (rs.take k) = .ok N) (he : rowM win N rs[k] = .ok N') : rowsM win M (rs.take (k + 1)) = .ok N' := by
  rw [take_row hk, rowsM_app, h]
  show (match rowM win N rs[k] with | .error e => Except.error e | .ok N' => rowsM win N' []) = _
  rw [he]
  rfl
theorem LookI.step {M N : Mod} {A : KV} {win : Int} {rs : List Row} {k : Nat} (h : LookI M N A win rs k) (hA : Apart A) (hk : k < rs.length) {l : Labs} (hl : makeL rs[k].1 = some l) {N' : Mod} (hr : rowM win N rs[k] = .ok N') {t : Int} (ht : lastT (putS rs[k].2 ((lookM N l).getD [])) = t) : LookI M N' (kvPut A (textL l) t) win rs (k + 1) := by
  obtain ⟨l', h1, h2, h3, rfl, h5, h6⟩ := rowM_ok h.ok hr
  rw [hl] at h1
  cases h1
  have hm := makeL_made hl
  refine ⟨rows_step hk h.rows hr, h.ok.row hr, fun m u hm2 hg => ?_, fun m hm2 hg => ?_⟩
  · rw [get_put hA] at hg
    rw [look_set h.ok.sort]
    by_cases e : m = l
    · rw [if_pos e]
      rw [if_pos (by rw [e])] at hg
      cases hg
      exact ⟨_, rfl, ht⟩
    · rw [if_neg e]
      rw [if_neg (fun e2 => e (text_inj hm2 hm e2))] at hg
      exact h.yes m u hm2 hg
  · rw [get_put hA] at hg
    rw [look_set h.ok.sort]
    by_cases e : m = l
    · rw [if_pos (by rw [e])] at hg
      cases hg
    · rw [if_neg e]
      rw [if_neg (fun e2 => e (text_inj hm2 hm e2))] at hg
      exact h.no m hm2 hg
theorem row_bad {win : Int} {N : Mod} {r : Row} (h : makeL r.1 = none) : rowM win N r = .error 20 := by unfold rowM; rw [h]
theorem row_time {win : Int} {N : Mod} {r : Row} {l : Labs} (h : makeL r.1 = some l) (ht : r.2.1 < -9007199254740992 ∨ 9007199254740992 < r.2.1) : rowM win N r = .error 21 := by unfold rowM; rw [h]; simp only; rw [if_pos ht]
theorem row_old {win : Int} {N : Mod} {r : Row} {l : Labs} {s : Smps} (h : makeL r.1 = some l) (ht : ¬ (r.2.1 < -9007199254740992 ∨ 9007199254740992 < r.2.1)) (hs : lookM N l = some s) (ho : r.2.1 < lastT s - win) : rowM win N r = .error 22 := by unfold rowM; rw [h]; simp only; rw [if_neg ht, hs]; simp only; rw [if_pos ho]
theorem row_set {win : Int} {N : Mod} {r : Row} {l : Labs} {s : Smps} (h : makeL r.1 = some l) (ht : ¬ (r.2.1 < -9007199254740992 ∨ 9007199254740992 < r.2.1)) (hs : lookM N l = some s) (ho : ¬ r.2.1 < lastT s - win) : rowM win N r = .ok (setM l (putS r.2 s) N) := by unfold rowM; rw [h]; simp only; rw [if_neg ht, hs]; simp only; rw [if_neg ho]
theorem row_full {win : Int} {N : Mod} {r : Row} {l : Labs} (h : makeL r.1 = some l) (ht : ¬ (r.2.1 < -9007199254740992 ∨ 9007199254740992 < r.2.1)) (hs : lookM N l = none) (ho : 1000 ≤ N.length) : rowM win N r = .error 2 := by unfold rowM; rw [h]; simp only; rw [if_neg ht, hs]; simp only; rw [if_pos ho]
theorem row_new {win : Int} {N : Mod} {r : Row} {l : Labs} (h : makeL r.1 = some l) (ht : ¬ (r.2.1 < -9007199254740992 ∨ 9007199254740992 < r.2.1)) (hs : lookM N l = none) (ho : ¬ 1000 ≤ N.length) : rowM win N r = .ok (setM l [r.2] N) := by unfold rowM; rw [h]; simp only; rw [if_neg ht, hs]; simp only; rw [if_neg ho]
/-- What look answers. -/
def LookA (win : Int) (M : Mod) (rs : List Row) (e : Ending) : Prop := (e = .returned (.tuple #[]) ∧ ∃ N, rowsM win M rs = .ok N) ∨ ∃ n, e = gaveH n ∧ rowsM win M rs = .error n
theorem ok_last {N : Mod} (h : ModOk N) {l : Labs} {s : Smps} (hs : lookM N l = some s) : -9007199254740992 ≤ lastT s ∧ lastT s ≤ 9007199254740992 ∧ RiseS s ∧ 0 < s.length := by
  have hm := (look_some h.sort).1 hs
  have h0 := h.some _ hm
  obtain ⟨y, hy, e⟩ := lastT_mem h0
  have := h.time _ hm y hy
  rw [e] at this
  exact ⟨this.1, this.2, h.rise _ hm, h0⟩

set_option maxRecDepth 100000 in
set_option maxHeartbeats 8000000 in
theorem look_any {w : World} {h : HeadC} {O : Nat → Prop} {M : Mod} (hA : HeadAt w h O) (hI : Is h M) (hc : countM M ≤ 100000) {Z : Nat → Prop} (v : Value) (rs : List Row) (hs : RowSrc w Z v rs) (hR : RowsOk rs) :
    Calls Tryz.prog 34 #[.pointer (some ⟨h.hb, 0, none⟩), v] w fun e w' => LookA h.win M rs e ∧ Kept w w' := by
  obtain ⟨a1, c1, rfl⟩ := hs.len
  obtain ⟨L, hL⟩ : ∃ L, rs.length = L := ⟨_, rfl⟩
  have HS := hid hs
  have HL := hid hL
  have HA := hid hA
  have HI := hid hI
  have HR := hid hR
  have HC := hid hc
  rw [hL] at HS ⊢
  have hLb : L ≤ 100000 := by have := hR.1; omega
  have m1 := hA.blk.cell 1 rfl
  have m0 := hA.blk.cell 0 rfl
  have hbl := hA.blk.lt
  have hmk : (Instr.makeMap 88 (some (.int .i64 (L : Int)))).run Tryz.prog w = .ok (.map (some w.heap.size)) (w.alloc (.map #[] 0)) := by
    have e : ¬ ((L : Int) < 0) := by omega
    simp [Instr.makeMap, asInt, asIntOf, e, Result.andThen]
  have hln : (Builtin.len_ #[63] 3 #[.map h.mv]).run Tryz.prog (w.alloc (.map #[] 0)) = .ok (.int .i64 (M.length : Int)) (w.alloc (.map #[] 0)) := by
    have e : h.kv.length = M.length := by rw [hA.len, hI.len]
    cases hmv : h.mv with
    | none =>
      have := hA.nil hmv
      rw [this] at e
      rw [← e]
      simp [Builtin.len_, Builtin.lenOf, run_underlying Tryz.underlying63, goInt, Result.andThen]
    | some mb =>
      have := ((hA.map mb hmv).alloc (.map #[] 0)).len Tryz.underlying63 3
      rw [size_kvD, e] at this
      exact this
  have HM0 := hid (World.ownsMap_made w Tryz.prog 9 (plainElem (H := Unit) Tryz.prog 3))
  have hwin := hA.win0
  have HST : Hid (∀ W, Kept w W → HeadAt W h O) := fun W k => HA.out.stay k
  have HRF := hid (fun n W => refuse_no n W)
  have HRT := hid (fun n W => refuse_yes n W)
  clear hs hL hA hI hR hc
  generalize hhb : h.hb = hb at *
  generalize hwn : h.win = win at *
  generalize h.mv = mv at *
  have HHB := hid hhb
  have HWN := hid hwn
  clear hhb hwn
  go_enter Tryz.func34, Tryz.ntmps34
  go_wp2
  clear hmk hln m1
  go_loopw [5, 24] (fun s5 s24 wr => ∃ (k : Nat) (N : Mod) (A : KV) (nA : Nat), k ≤ L ∧ s5 = .int .i64 (N.length : Int) ∧ s24 = .int .i64 (k : Int) ∧ LookI M N A win rs k ∧ wr.ownsMap Tryz.prog 9 (plainElem (H := Unit) Tryz.prog 3) w.heap.size nA (kvD A) ∧ nA ≤ k ∧ Kept w wr) (fun _ s _ => L - (intOf s).toNat)
  case atStart => exact ⟨0, M, [], 0, by omega, rfl, rfl, ⟨rfl, HI.out.ok, (fun l t _ hg => by cases hg), fun l _ _ => rfl⟩, HM0.out, Nat.le_refl _, (Only.refl _ w).alloc _⟩
  case round =>
    obtain ⟨k, N, A, nA, hk, rfl, rfl, hLI, hmA, hnA, kr⟩ := hrel
    have HLI := hid hLI
    have HmA := hid hmA
    have HK := hid kr
    clear hLI hmA
    by_cases hlt : k < L
    · have hkl : k < rs.length := by have := HL.out; omega
      obtain ⟨b1, o1, lv, rfl, x0, x1, x2, hlv, _⟩ := (HS.out.stay kr).cell HL.out k hlt
      obtain ⟨a3, c3, rfl⟩ := hlv.len
      obtain ⟨hl1, hl2⟩ := HR.out.2 _ (List.getElem_mem hkl)
      have HE : Hid (∀ e, rowM win N (rs[k]'hkl) = .error e → rowsM win M rs = .error e) := fun e he => rows_err hkl HLI.out.rows he
      have HN : Hid (∀ l N' t, makeL (rs[k]'hkl).1 = some l → rowM win N (rs[k]'hkl) = .ok N' → lastT (putS (rs[k]'hkl).2 ((lookM N l).getD [])) = t → LookI M N' (kvPut A (textL l) t) win rs (k + 1)) := fun l N' t h1 h2 h3 => HLI.out.step (kv_apart HmA.out) hkl h1 h2 h3
      have HLV := hid hlv
      clear kr
      generalize rs[k]'hkl = r at x0 x1 x2 HLV hl1 hl2 HE HN
      obtain ⟨rl, rt, rv⟩ := r
      simp only at x0 x1 x2 HLV hl1 hl2
      clear hlv
      -- the row's own block
      obtain ⟨w1, hw1⟩ : ∃ w1, w1 = wr.alloc (.cells #[.slice a3 rl.length c3, .int .i64 rt, .int .i64 rv] 40) := ⟨_, rfl⟩
      have k1 : Kept wr w1 := by rw [hw1]; exact (Only.refl _ wr).alloc _
      have br : Blk w1 wr.heap.size [.slice a3 rl.length c3, .int .i64 rt, .int .i64 rv] 40 := by rw [hw1]; exact Blk.new wr _ _
      have HM := hid (make_any w1 _ rl (HLV.out.stay k1) hl1 hl2)
      have HT := hid (fun W (kW : Kept w1 W) => text_any W _ rl (HLV.out.stay (k1.trans kW (fun _ _ f => f))) hl1 hl2)
      have K1 := hid (HK.out.trans k1 (fun _ _ f => f))
      have HmA1 := hid (k1.map HmA.out (fun f => f))
      have BR := hid br
      clear k1 br HLV
      subst hw1
      generalize rl.length = rn at *
      go_wp2_with fail
      refine HM.out.mono ?_
      rintro e w2 ⟨⟨u, n, rfl, hMk⟩, k2⟩
      have K2 := hid (K1.out.trans k2 (fun _ _ f => f))
      have br2 := k2.blk BR.out (fun f => f)
      have y0 := br2.cell 0 rfl
      have y1 := br2.cell 1 rfl
      have y2 := br2.cell 2 rfl
      have HmA2 := hid (k2.map HmA1.out (fun f => f))
      have HT2 := hid (fun W (kW : Kept w2 W) => HT.out W (k2.trans kW (fun _ _ f => f)))
      have BR2 := hid br2
      clear k2 br2 HM HT HmA1 BR K1 x0 x1 x2 HmA HK
      generalize wr.heap.size = rb at *
      have hwin2 := hwin
      cases hmk : makeL rl with
      | none =>
        rw [hmk] at hMk
        obtain ⟨rfl, rfl⟩ := hMk
        have HX := hid (HE.out 20 (row_bad hmk))
        clear hmk HE HN
        go_wp2_with (go_at_call 33; refine (HRT.out _ _).mono ?_; rintro e w'' ⟨rfl, hw⟩; replace hw := hw.symm; subst hw)
        exact ⟨rfl, .inr ⟨20, rfl, HX.out⟩, K2.out⟩
      | some l =>
        rw [hmk] at hMk
        obtain ⟨rfl, hlat⟩ := hMk
        obtain ⟨a4, c4, rfl⟩ := ownN_slice hlat
        have HMK := hid hmk
        have hml := makeL_made hmk
        have htx : txtB rl = mkB (textL l) := by unfold txtB; rw [hmk]
        rw [htx] at HT2
        have HML := hid hml
        have hts : (mkB (textL l)).size ≤ 100000 := by rw [mkB_size]; have := text_len hml; omega
        clear hmk hml htx hlat
        by_cases hta : rt < -9007199254740992
        · have HX := hid (HE.out 21 (row_time HMK.out (.inl hta)))
          have hd : decide (rt < -9007199254740992) = true := decide_eq_true hta
          clear HE HN
          go_wp2_with fail
          refine (HRF.out _ _).mono ?_
          rintro e w'' ⟨rfl, hw⟩
          replace hw := hw.symm
          subst hw
          go_wp2_with fail
          refine (HRT.out _ _).mono ?_
          rintro e w'' ⟨rfl, hw⟩
          replace hw := hw.symm
          subst hw
          exact ⟨rfl, .inr ⟨21, rfl, HX.out⟩, K2.out⟩
        by_cases htb : 9007199254740992 < rt
        · have HX := hid (HE.out 21 (row_time HMK.out (.inr htb)))
          have hd : decide (rt < -9007199254740992) = false := decide_eq_false hta
          have hd2 : decide (9007199254740992 < rt) = true := decide_eq_true htb
          clear HE HN
          go_wp2_with fail
          refine (HRF.out _ _).mono ?_
          rintro e w'' ⟨rfl, hw⟩
          replace hw := hw.symm
          subst hw
          go_wp2_with fail
          refine (HRT.out _ _).mono ?_
          rintro e w'' ⟨rfl, hw⟩
          replace hw := hw.symm
          subst hw
          exact ⟨rfl, .inr ⟨21, rfl, HX.out⟩, K2.out⟩
        have HTT : Hid (¬ (rt < -9007199254740992 ∨ 9007199254740992 < rt)) := fun h => by rcases h with h | h <;> omega
        have hd : decide (rt < -9007199254740992) = false := decide_eq_false hta
        have hd2 : decide (9007199254740992 < rt) = false := decide_eq_false htb
        go_wp2_with fail
        refine (HRF.out _ _).mono ?_
        rintro e w'' ⟨rfl, hw⟩
        replace hw := hw.symm
        subst hw
        go_wp2_with fail
        refine (HRF.out _ _).mono ?_
        rintro e w'' ⟨rfl, hw⟩
        replace hw := hw.symm
        subst hw
        go_wp2_with fail
        refine (HT2.out _ (Only.refl _ _)).mono ?_
        rintro e w3 ⟨rfl, k3⟩
        have K3 := hid (K2.out.trans k3 (fun _ _ f => f))
        have HmA3 := hid (k3.map HmA2.out (fun f => f))
        have hb3 := K3.out.blk (HA.out.blk) (fun f => f)
        rw [HHB.out, HWN.out] at hb3
        have m03 := hb3.cell 0 rfl
        have hlk := look_int (s := mkB (textL l)) HmA3.out (by unfold maxLen; omega)
        rw [mkB_data] at hlk
        clear k3 HT2 hb3 HmA2 m0
        cases hget : kvGet A (textL l) with
        | some t0 =>
          rw [hget] at hlk
          simp only [Option.getD_some, Option.isSome_some] at hlk
          obtain ⟨s0, hs0, hl0⟩ := HLI.out.yes l t0 HML.out hget
          obtain ⟨b1_, b2_, hrise, hpos⟩ := ok_last HLI.out.ok hs0
          have HOLD : Hid (rt < t0 - win → rowsM win M rs = .error 22) := fun h => HE.out 22 (row_old HMK.out HTT.out hs0 (by rw [hl0]; exact h))
          have HNEW : Hid (¬ rt < t0 - win → ∃ N', (N'.length : Int) = (N.length : Int) ∧ LookI M N' (kvPut A (textL l) (max t0 rt)) win rs (k + 1)) := fun h => by
            have hr := row_set (win := win) (r := (rl, rt, rv)) HMK.out HTT.out hs0 (show ¬ rt < lastT s0 - win by rw [hl0]; exact h)
            refine ⟨_, ?_, HN.out l _ _ HMK.out hr ?_⟩
            · rw [len_set HLI.out.ok.sort, hs0]
              rfl
            · rw [hs0, Option.getD_some, lastT_put hrise hpos, hl0]
          have KZ := K3
          have HmZ := HmA3
          have hNWb : -9007199254740992 ≤ t0 ∧ t0 ≤ 9007199254740992 := by rw [← hl0]; exact ⟨b1_, b2_⟩
          clear HE HN hget hs0 hl0 hrise hpos b1_ b2_
          generalize t0 = NW at *
          have hwr : IntKind.i64.wrap (NW - win) = NW - win := by rw [IntKind.wrap_i64]; omega
          --OLD
          by_cases hold : rt < NW - win
          · have HX := hid (HOLD.out hold)
            have hd3 : decide (rt < NW - win) = true := decide_eq_true hold
            clear HOLD HNEW
            go_wp2_with fail
            refine (HRT.out _ _).mono ?_
            rintro e w'' ⟨rfl, hw⟩
            replace hw := hw.symm
            subst hw
            exact ⟨rfl, .inr ⟨22, rfl, HX.out⟩, KZ.out⟩
          · have HX := hid (HNEW.out (by omega))
            have hd3 : decide (rt < NW - win) = false := decide_eq_false hold
            clear HOLD HNEW
            go_wp2_with fail
            refine (HRF.out _ _).mono ?_
            rintro e w'' ⟨rfl, hw⟩
            replace hw := hw.symm
            subst hw
            obtain ⟨w9, hr9, ho9, hk9, hs9⟩ := put_int (s := mkB (textL l)) (x := max NW rt) HmZ.out (by unfold maxLen; omega) (by omega) (by omega)
            rw [mkB_data] at ho9
            have HO9 := hid ho9
            have HK9 := hid hk9
            clear ho9 hk9 hs9
            go_wp2
            obtain ⟨N', hN1, hN2⟩ := HX.out
            refine ⟨⟨k + 1, N', _, nA + 1, by omega, by rw [hN1], by go_num, hN2, HO9.out, by omega, KZ.out.trans HK9.out (fun j hj e => by omega)⟩, ?_⟩
            simp [intOf]
            omega
        | none =>
          rw [hget] at hlk
          simp only [Option.getD_none, Option.isSome_none] at hlk
          have hLN := HLI.out.no l HML.out hget
          clear hget
          rcases (HST.out w3 K3.out).find (textL l) with ⟨c, hcm, hct, hcg⟩ | ⟨hcn, hcg⟩
          · have hcl : c.labs = l := text_inj (HA.out.made c hcm) HML.out hct
            have hs0 : lookM N l = some c.smps := by
              rw [hLN, ← hcl]
              exact Is.look (w := w) (O := O) HI.out hcm
            obtain ⟨b1_, b2_, hrise, hpos⟩ := ok_last HLI.out.ok hs0
            have hcnt : c.smps.length ≤ 1000000 := by
              have h1 := countM_mem (HI.out.perm.mem_iff.1 (List.mem_map.2 ⟨c, hcm, rfl⟩))
              have h2 := HC.out
              have h3 : (serC c).2.length = c.smps.length := rfl
              omega
            have HNW := hid (newest_yes (HST.out w3 K3.out) (mkB (textL l)) hts hcm hpos hcnt (by rw [mkB_data]; exact hcg))
            rw [HHB.out] at HNW
            have HOLD : Hid (rt < lastT c.smps - win → rowsM win M rs = .error 22) := fun h => HE.out 22 (row_old HMK.out HTT.out hs0 h)
            have HNEW : Hid (¬ rt < lastT c.smps - win → ∃ N', (N'.length : Int) = (N.length : Int) ∧ LookI M N' (kvPut A (textL l) (max (lastT c.smps) rt)) win rs (k + 1)) := fun h => by
              have hr := row_set (win := win) (r := (rl, rt, rv)) HMK.out HTT.out hs0 h
              refine ⟨_, ?_, HN.out l _ _ HMK.out hr ?_⟩
              · rw [len_set HLI.out.ok.sort, hs0]
                rfl
              · rw [hs0, Option.getD_some, lastT_put hrise hpos]
            have hNWb : -9007199254740992 ≤ lastT c.smps ∧ lastT c.smps ≤ 9007199254740992 := ⟨b1_, b2_⟩
            clear HE HN hs0 hrise hpos b1_ b2_ hcl hct hcg hLN hcnt
            generalize lastT c.smps = NW at *
            have hwr : IntKind.i64.wrap (NW - win) = NW - win := by rw [IntKind.wrap_i64]; omega
            go_wp2_with fail
            refine HNW.out.mono ?_
            rintro e w4 ⟨rfl, k4⟩
            have KZ := hid (K3.out.trans k4 (fun _ _ f => f))
            have HmZ := hid (k4.map HmA3.out (fun f => f))
            have hb4 := KZ.out.blk (HA.out.blk) (fun f => f)
            rw [HHB.out, HWN.out] at hb4
            have m04 := hb4.cell 0 rfl
            clear k4 HNW hb4 hlk m03
            by_cases hold : rt < NW - win
            · have HX := hid (HOLD.out hold)
              have hd3 : decide (rt < NW - win) = true := decide_eq_true hold
              clear HOLD HNEW
              go_wp2_with fail
              refine (HRT.out _ _).mono ?_
              rintro e w'' ⟨rfl, hw⟩
              replace hw := hw.symm
              subst hw
              exact ⟨rfl, .inr ⟨22, rfl, HX.out⟩, KZ.out⟩
            · have HX := hid (HNEW.out (by omega))
              have hd3 : decide (rt < NW - win) = false := decide_eq_false hold
              clear HOLD HNEW
              go_wp2_with fail
              refine (HRF.out _ _).mono ?_
              rintro e w'' ⟨rfl, hw⟩
              replace hw := hw.symm
              subst hw
              obtain ⟨w9, hr9, ho9, hk9, hs9⟩ := put_int (s := mkB (textL l)) (x := max NW rt) HmZ.out (by unfold maxLen; omega) (by omega) (by omega)
              rw [mkB_data] at ho9
              have HO9 := hid ho9
              have HK9 := hid hk9
              clear ho9 hk9 hs9
              go_wp2
              obtain ⟨N', hN1, hN2⟩ := HX.out
              refine ⟨⟨k + 1, N', _, nA + 1, by omega, by rw [hN1], by go_num, hN2, HO9.out, by omega, KZ.out.trans HK9.out (fun j hj e => by omega)⟩, ?_⟩
              simp [intOf]
              omega
          · have hs0 : lookM N l = none := by
              rw [hLN]
              exact HI.out.lookNone hcn
            have HNW := hid (newest_no (HST.out w3 K3.out) (mkB (textL l)) hts (by rw [mkB_data]; exact hcg))
            rw [HHB.out] at HNW
            have HNN := hid hs0
            clear hs0 hcn hcg hLN
            by_cases hful : 1000 ≤ N.length
            · have HX := hid (HE.out 2 (row_full HMK.out HTT.out HNN.out hful))
              have hd4 : decide ((1000 : Int) ≤ (N.length : Int)) = true := decide_eq_true (by omega)
              have hful2 : (1000 : Int) ≤ (N.length : Int) := by omega
              clear HE HN
              go_wp2_with fail
              refine HNW.out.mono ?_
              rintro e w4 ⟨rfl, hw4⟩
              replace hw4 := hw4.symm
              subst hw4
              go_wp2_with fail
              refine (HRT.out _ _).mono ?_
              rintro e w'' ⟨rfl, hw⟩
              replace hw := hw.symm
              subst hw
              exact ⟨rfl, .inr ⟨2, rfl, HX.out⟩, K3.out⟩
            · have HX : Hid (∃ N', (N'.length : Int) = (N.length : Int) + 1 ∧ LookI M N' (kvPut A (textL l) (max rt rt)) win rs (k + 1)) := by
                have hr := row_new (win := win) (r := (rl, rt, rv)) HMK.out HTT.out HNN.out hful
                refine ⟨_, ?_, HN.out l _ _ HMK.out hr ?_⟩
                · rw [len_set HLI.out.ok.sort, HNN.out]
                  simp
                · rw [HNN.out, Option.getD_none, lastT_put0, Int.max_self]
              have hd4 : decide ((1000 : Int) ≤ (N.length : Int)) = false := decide_eq_false (by omega)
              have hful2 : ¬ (1000 : Int) ≤ (N.length : Int) := by omega
              have hd3 : decide (rt < rt - win) = false := decide_eq_false (by omega)
              have hold : ¬ rt < rt - win := by omega
              have hwr : IntKind.i64.wrap (rt - win) = rt - win := by rw [IntKind.wrap_i64]; omega
              clear HE HN
              have hwn : IntKind.i64.wrap ((N.length : Int) + 1) = (N.length : Int) + 1 := by rw [IntKind.wrap_i64]; omega
              go_wp2_with fail
              refine HNW.out.mono ?_
              rintro e w4 ⟨rfl, hw4⟩
              replace hw4 := hw4.symm
              subst hw4
              go_wp2_with fail
              refine (HRF.out _ _).mono ?_
              rintro e w'' ⟨rfl, hw⟩
              replace hw := hw.symm
              subst hw
              go_wp2_with fail
              refine (HRF.out _ _).mono ?_
              rintro e w'' ⟨rfl, hw⟩
              replace hw := hw.symm
              subst hw
              obtain ⟨w9, hr9, ho9, hk9, hs9⟩ := put_int (s := mkB (textL l)) (x := max rt rt) HmA3.out (by unfold maxLen; omega) (by omega) (by omega)
              rw [mkB_data] at ho9
              have HO9 := hid ho9
              have HK9 := hid hk9
              clear ho9 hk9 hs9
              rw [Int.max_self] at hr9
              go_wp2
              obtain ⟨N', hN1, hN2⟩ := HX.out
              refine ⟨⟨k + 1, N', _, nA + 1, by omega, by rw [hN1], by go_num, hN2, HO9.out, by omega, K3.out.trans HK9.out (fun j hj e => by omega)⟩, ?_⟩
              simp [intOf]
              omega
    · have e : k = L := by omega
      subst e
      go_wp2
      go_end0
      refine ⟨.inl ⟨rfl, N, ?_⟩, HK.out⟩
      have h1 := HLI.out.rows
      rw [List.take_of_length_le (by have := HL.out; omega)] at h1
      exact h1
end Go.Proofs.YtnbfbnhiikliaaaGreat.Hd
