/-
  gather: a part of each series, by rising labels; All.
-/
import Derived.Test.YtnbfbnhiikliaaaGreatHsort
namespace Go.Proofs.YtnbfbnhiikliaaaGreat.Hd
open Go.RowKit Go.Proofs.Lys Go.Maps Go.Proofs.YtnbfbnhiikliaaaGreat.N
set_option linter.unusedVariables false
set_option linter.unusedSimpArgs false

theorem sort_unique : ∀ {M N : Mod}, SortM M → SortM N → M.Perm N → M = N
  | [], N, _, _, h => (List.nil_perm.1 h).symm ▸ rfl
  | a :: M, [], _, _, h => by have := h.length_eq; simp at this
  | a :: M, b :: N, hM, hN, h => by
    have h1 := List.pairwise_cons.1 hM
    have h2 := List.pairwise_cons.1 hN
    have e : a = b := by
      rcases List.mem_cons.1 (h.mem_iff.1 (List.mem_cons_self ..)) with e | ha
      · exact e
      · rcases List.mem_cons.1 (h.mem_iff.2 (List.mem_cons_self (a := b) (l := N))) with e | hb
        · exact e.symm
        · have c1 := h1.1 b hb
          have c2 := h2.1 a ha
          have := cmpL_good.anti a.1 b.1
          omega
    subst e
    rw [sort_unique h1.2 h2.2 (List.Perm.cons_inv h)]
theorem SerAt.base {w : World} {B B' : Nat} {v : Value} {xs : List SV} (h : SerAt w B v xs) (hb : B' ≤ B) : SerAt w B' v xs :=
  ⟨ownN_base h.row hb, fun x hx => ownN_base (h.lab x hx) hb, fun x hx => ownN_base (h.smp x hx) hb, h.apart⟩
theorem serL_app {w : World} {B : Nat} {v : Value} {xs : List SV} (hown : SerAt w B v xs) (hB : B ≤ w.heap.size) (hl : xs.length ≤ 100000) (x : SV) (hlab : LabAt w B x.lv x.labs) (hsmp : SmpAt w B x.sv x.smps) (hap : ∀ y ∈ xs, ∀ k, y.has k → ¬ x.has k) :
    ∃ v' w', Hid ((Builtin.append_ #[47, 47] 0 #[v, .slice (some ⟨w.heap.size, 0, none⟩) 1 1]).run Tryz.prog (w.alloc (.cells #[x.lv, x.sv] 56)) = .ok v' w') ∧ SerAt w' B v' (xs ++ [x]) ∧ Only (fun k => v.ownBlock = some k) w w' := by
  obtain ⟨i0, hi0, hz0, hz1, hz2⟩ := info_parts Tryz.infoSer
  have k1 : Kept w (w.alloc (.cells #[x.lv, x.sv] 56)) := (Only.refl _ w).alloc _
  have hb := Blk.new w [x.lv, x.sv] 56
  have h1 : ∀ u ∈ [x.lv, x.sv], u.oneCell' = true := by
    intro u hu
    simp at hu
    rcases hu with rfl | rfl
    · obtain ⟨a, c, e⟩ := ownN_slice hlab
      rw [e]; rfl
    · obtain ⟨a, c, e⟩ := ownN_slice hsmp
      rw [e]; rfl
  obtain ⟨v', w', hr, h2, h3, _, h5⟩ := run_append_own_at (P := Tryz.prog) (w.alloc (.cells #[x.lv, x.sv] 56)) B _ 0 _ i0 _ 2 48 Tryz.underlying47 hi0 hz0 hz1 hz2 rfl (by decide) v xs.length (svL xs) (ownN_stay hown.row k1) ⟨w.heap.size, 0, none⟩ 1 1 [x.lv, x.sv] rfl
      (fun j u hu => by rw [add_none, Nat.zero_add]; exact hb.cell j hu) h1 (by unfold maxLen; omega) (by omega) (by have := k1.size; omega)
  have kk : Only (fun k => v.ownBlock = some k) w w' := (k1.mono (fun _ _ f => f.elim)).grown h3 (fun k e _ => e)
  have hne : ∀ {T : TypeId} {j : Nat}, T ≠ 56 → Typed w j T → ¬ v.ownBlock = some j := fun hT hj e => hj.ne (ownN_typed hown.row e) hT rfl
  refine ⟨v', w', hr, ⟨?_, fun y hy => ?_, fun y hy => ?_, ?_⟩, kk⟩
  · rw [List.length_append, svL_app]
    exact h2
  · rcases List.mem_append.1 hy with hy | hy
    · exact ownN_only (hown.lab y hy) kk (fun b hb => hne (by decide) (ownN_typed (hown.lab y hy) hb))
    · rw [List.mem_singleton.1 hy]
      exact ownN_only hlab kk (fun b hb => hne (by decide) (ownN_typed hlab hb))
  · rcases List.mem_append.1 hy with hy | hy
    · exact ownN_only (hown.smp y hy) kk (fun b hb => hne (by decide) (ownN_typed (hown.smp y hy) hb))
    · rw [List.mem_singleton.1 hy]
      exact ownN_only hsmp kk (fun b hb => hne (by decide) (ownN_typed hsmp hb))
  · refine List.pairwise_append.2 ⟨hown.apart, List.pairwise_singleton _ _, fun a ha b hb => ?_⟩
    rw [List.mem_singleton.1 hb]
    exact hap a ha

/-- A function that takes a part of a series, and what it leaves of it. -/
structure Part (f : FuncId) (cap : Array Value) (F : Smps → Smps) (U : SerC → SerC) (E : World → Prop) (C : SerC → Nat → Prop) (O : Nat → Prop) (B : Nat) (cs : List SerC) : Prop where
  enters : ∀ args w, (callFunc f args).run Tryz.prog w = .ok (.enter f args) w
  keeps : ∀ W W', Only (fun k => O k ∨ B ≤ k) W W' → E W → E W'
  b : ∀ c, (U c).b = c.b
  lv : ∀ c, (U c).lv = c.lv
  labs : ∀ c, (U c).labs = c.labs
  has : ∀ c ∈ cs, ∀ k, (U c).has k → c.has k
  sub : ∀ c ∈ cs, ∀ k, C c k → c.has k ∧ O k
  call : ∀ W, ∀ c ∈ cs, SerOk W c → E W → Calls Tryz.prog f (#[.pointer (some ⟨c.b, 0, none⟩)] ++ cap) W fun e w' => ∃ v', e = .returned v' ∧ SmpAt w' W.heap.size v' (F c.smps) ∧ SerOk w' (U c) ∧ Only (C c) W w'

/-- What gather leaves. -/
def GatP (w : World) (h : HeadC) (S : Nat → Prop) (M : Mod) (F : Smps → Smps) (U : SerC → SerC) (E : World → Prop) (e : Ending) (w' : World) : Prop :=
  ∃ v qs, e = .returned v ∧ SerAt w' w.heap.size v qs ∧ qs.map serV = partM F M ∧ Only S w w' ∧ (∀ c ∈ h.cs, SerOk w' (U c)) ∧ E w'

theorem part_cons (F : Smps → Smps) (x : Ser) (M : Mod) : partM F (x :: M) = if 0 < (F x.2).length then (x.1, F x.2) :: partM F M else partM F M := by
  unfold partM
  rw [List.map_cons, List.filter_cons]
  by_cases hh : 0 < (F x.2).length
  · rw [if_pos hh, if_pos (by simpa using hh)]
  · rw [if_neg hh, if_neg (by simpa using hh)]

set_option maxRecDepth 100000 in
set_option maxHeartbeats 4000000 in
theorem gather_any {w : World} {h : HeadC} {O : Nat → Prop} {M : Mod} (hA : HeadAt w h O) (hI : Is h M) {f : FuncId} {cap : Array Value} {F : Smps → Smps} {U : SerC → SerC} {E : World → Prop} {C : SerC → Nat → Prop} {S : Nat → Prop} (hSO : ∀ k, S k → k < w.heap.size) (hP : Part f cap F U E C S w.heap.size h.cs) (hE : E w) :
    Calls Tryz.prog 41 #[.pointer (some ⟨h.hb, 0, none⟩), .func (.func f) #[] cap] w (GatP w h S M F U E) := by
  have m1 := hA.blk.cell 1 rfl
  have HA := hid hA
  have HI := hid hI
  have HP := hid hP
  have HE := hid hE
  have eg := hP.enters
  cases hmv : h.mv with
  | none =>
    have hcs : h.cs = [] := by
      have h1 := hA.nil hmv
      have h2 := hA.len
      rw [h1] at h2
      exact List.length_eq_zero_iff.1 h2.symm
    have hM0 : M = [] := by
      have := hI.perm
      rw [hcs] at this
      exact List.nil_perm.1 this
    have HM0 := hid hM0
    have HCS := hid hcs
    rw [hmv] at m1
    have hrg := run_range_nilMap (P := Tryz.prog) w 63 _ _ Tryz.underlying63
    have hnx : ∀ ty, (Instr.next (.pointer (some ⟨w.heap.size, 0, none⟩)) false ty).run Tryz.prog (w.alloc (.mapIter none 0 #[] 0)) = _ := fun ty => run_next_nilMap _ ty 0 0 #[]
    have HS := hid (fun W => sort_ser W w.heap.size (.slice none 0 0) [] (SerAt.nil _ _) .nil (fun x hx => by cases hx) (by simp))
    clear hA hmv hcs hM0 hI hP hE
    generalize h.hb = hb at *
    go_enter Tryz.func41, Tryz.ntmps41
    go_wp2
    refine wp_loop_rounds 1 ?_
    rw [rounds_succ]
    go_wp2_with fail
    refine (HS.out _).mono ?_
    rintro e w1 ⟨rfl, k1, qs, hq1, hq2, hq3⟩
    have HQ := hid hq3
    have HQ1 := hid hq1
    have K1 := hid k1
    clear hq1 hq2 hq3 k1 HS
    go_wp2
    go_ret
    have hq0 : qs = [] := List.perm_nil.1 HQ1.out
    subst hq0
    have kk : Only S w w1 := ((Only.refl S w).alloc _).trans K1.out (fun j _ e => by cases e)
    exact ⟨_, [], rfl, HQ.out, by rw [HM0.out]; rfl, kk, (fun c hc => by rw [HCS.out] at hc; cases hc), HP.out.keeps _ _ (kk.mono (fun k _ h1 => .inl h1)) HE.out⟩
  | some mb =>
    have hm := hA.map mb hmv
    have hmbN := hid (hA.mbNe hmv).2
    have hOmb := hid (hA.lt mb (hA.own mb (.inr (.inl hmv))))
    rw [hmv] at m1
    have HAP := hid hA.kvApart
    have hbl := hA.blk.lt
    have HLS := hid hSO
    have HLT : Hid (∀ c ∈ h.cs, ∀ k, c.has k → k < w.heap.size) := fun c hc k hk => HA.out.lt k (HA.out.own k (.inr (.inr ⟨c, hc, hk⟩)))
    clear hA hmv hI hP hE hSO
    generalize hhb : h.hb = hb at *
    clear hhb
    go_enter Tryz.func41, Tryz.ntmps41
    go_wp2_with (first | (at_range; refine wpList_range_own _ rfl _ 63 rfl 9 72 law Tryz.underlying63 _ mb h.kv.length (kvD h.kv) rfl hm ?_; intro w0 hrg0 hg0 hs0) | go_in)
    go_frame
    go_loopw [5] (fun s wr => ∃ (left : Lit → Bool) (cnt : Nat) (acc : List SV) (a5 : Option Addr) (n5 c5 : Nat), s = .slice a5 n5 c5 ∧ SerAt wr (w.heap.size + 1) (.slice a5 n5 c5) acc ∧ (acc.map serV).Perm (partM F ((doneC h.cs left).map serC)) ∧ wr.ranges Tryz.prog 9 ptrE mb w.heap.size h.kv.length (kvD h.kv) left cnt ∧ Only S w wr ∧ E wr ∧ w.heap.size < wr.heap.size ∧ ∀ c ∈ h.cs, SerOk wr (if left (keyL c) then c else U c)) (fun _ wr => wr.rangeLeft mb w.heap.size)
    case atStart =>
      have k0 : Only S w w0 := (Only.refl _ w).grown hg0 (fun k e => by cases e)
      refine ⟨_, _, [], none, 0, 0, rfl, SerAt.nil _ _, ?_, hrg0, k0, HP.out.keeps _ _ (k0.mono (fun k _ h1 => .inl h1)) HE.out, by omega, fun c hc => ?_⟩
      · rw [done_start HA.out.perm HAP.out]
        exact .refl _
      · have : Maps.has (kvD h.kv) (keyL c) = true := by
          unfold keyL
          rw [has_kvD, (get_some HAP.out).2 (HA.out.perm.mem_iff.2 (List.mem_map.2 ⟨c, hc, rfl⟩))]
          rfl
        rw [if_pos this]
        exact (HA.out.each c hc).only ((Only.refl (fun _ => False) w).grown hg0 (fun k e => by cases e)) (fun _ _ f => f)
    case round =>
      obtain ⟨left, cnt, acc, a5, n5, c5, rfl, hacc, hperm, hrg, kr, hEr, hszr, hcs⟩ := hrel
      have HACC := hid hacc
      have HPERM := hid hperm
      have HK := hid kr
      have HER := hid hEr
      have HCS := hid hcs
      have hrz := kr.size
      clear hperm kr hEr hcs hacc
      go_wp2_with (first | (at_next; refine wpList_next_ranges _ rfl _ rfl 9 law ptrE Value.string ptrV (fun key kl hk => (key_inv key kl hk).imp (fun x hx => hx.1)) ptrE_inv mb w.heap.size h.kv.length _ _ _ rfl hrg ?_ ?_) | go_in)
      · intro _ hl0
        have hdone : (acc.map serV).Perm (partM F M) := by
          have h1 := HPERM.out
          rw [done_end hl0] at h1
          exact h1.trans (partM_perm HI.out.perm F)
        have hsrt := partM_sort HI.out.ok.sort F
        have hdis : acc.Pairwise (fun a b => a.labs ≠ b.labs) := by
          have h1 : (partM F M).Pairwise (fun a b => a.1 ≠ b.1) := List.Pairwise.imp (fun {a b} hab e => by rw [e] at hab; have := cmpL_good.self b.1; omega) hsrt
          have h2 := (hdone.pairwise_iff (R := fun a b : Ser => a.1 ≠ b.1) (fun {_ _} hne => Ne.symm hne)).2 h1
          rw [List.pairwise_map] at h2
          exact h2
        have hpl : (partM F M).length ≤ 1000 := by
          have h1 := List.length_filter_le (fun x : Ser => decide (0 < x.2.length)) (M.map (fun x => (x.1, F x.2)))
          rw [List.length_map] at h1
          exact Nat.le_trans h1 HI.out.ok.len
        have hal : acc.length ≤ 1000000 := by
          have h1 := hdone.length_eq
          rw [List.length_map] at h1
          omega
        have hll : ∀ x ∈ acc, x.labs.length ≤ 1000000 := fun x hx => by
          have h1 := hdone.mem_iff.1 (List.mem_map.2 ⟨x, hx, rfl⟩)
          obtain ⟨y, hy, e⟩ := List.mem_map.1 (List.mem_filter.1 h1).1
          have e1 : y.1 = x.labs := congrArg Prod.fst e
          have := (HI.out.ok.made y hy).len16
          rw [e1] at this
          omega
        have HS := hid (sort_ser wr (w.heap.size + 1) _ acc HACC.out hdis hll hal)
        have HD := hid hdone
        have HL0 := hid hl0
        clear hdone hsrt hdis hpl hal hll hl0
        go_wp2_with fail
        refine HS.out.mono ?_
        rintro e w2 ⟨rfl, k2, qs, hq1, hq2, hq3⟩
        have HQ := hid (show SerAt w2 w.heap.size _ qs from SerAt.base hq3 (by omega))
        have HQE : Hid (qs.map serV = partM F M) := by
          refine sort_unique ?_ (partM_sort HI.out.ok.sort F) ((hq1.map serV).trans HD.out)
          unfold SortM
          rw [List.pairwise_map]
          exact hq2
        have hvb : ∀ k, (Value.slice a5 n5 c5).ownBlock = some k → w.heap.size ≤ k := fun k hk => by have := (ownN_lt HACC.out.row hk).1; omega
        have HKK : Hid (Only S w w2) := HK.out.trans k2 (fun j hj e => by have := hvb j e; omega)
        have HEE : Hid (E w2) := HP.out.keeps _ _ (k2.mono (fun k _ e => .inr (hvb k e))) HER.out
        have HSS : Hid (∀ c ∈ h.cs, SerOk w2 (U c)) := fun c hc => by
          have h1 := HCS.out c hc
          rw [HL0.out] at h1
          simp only [Bool.false_eq_true, if_false] at h1
          refine h1.only k2 (fun j hj e => ?_)
          have h2 := hvb j e
          have h3 := HLT.out c hc j (HP.out.has c hc j hj)
          omega
        clear k2 hq1 hq2 hq3 hvb HS
        go_wp2
        go_ret
        exact ⟨_, qs, rfl, HQ.out, HQE.out, HKK.out, HSS.out, HEE.out⟩
      · intro x c kl yd yp w1 cnt1 hkey hlx hv hat hrg1 hlt hg1 hs1 hen
        obtain ⟨s, hs, rfl, hpv⟩ := key_came HA.out hkey hv hat
        rw [hpv] at hen ⊢
        have k1 : Only (fun k => k = w.heap.size) wr w1 := (Only.refl _ wr).grown hg1 (fun k e _ => by cases e; rfl)
        have hsC : ∀ j, C s j → S j := fun j hj => (HP.out.sub s hs j hj).2
        have hsH : ∀ j, C s j → s.has j := fun j hj => (HP.out.sub s hs j hj).1
        have hsL := HLT.out s hs
        have S0 : SerOk wr s := by
          have h1 := HCS.out s hs
          rw [if_pos hlx] at h1
          exact h1
        have S1 := S0.only k1 (fun j hj e => by have := hsL j hj; omega)
        have E1 := HP.out.keeps _ _ (k1.mono (fun k _ e => (.inr (by omega) : S k ∨ w.heap.size ≤ k))) HER.out
        have HC := hid (HP.out.call w1 s hs S1 E1)
        have HST := hid (done_step HA.out.texts hs hlx)
        have HS := hid hs
        have HLX := hid hlx
        have HR1 := hid hrg1
        have HK1 := hid k1
        have HLTC := hid hlt
        have HRG := hid hrg
        have HE1 := hid E1
        have hsz1 := hs1
        clear hrg1 k1 S0 S1 E1 hv hat hkey hpv hlx hs hg1 hlt hrg
        obtain ⟨sb, hsb⟩ : ∃ sb, s.b = sb := ⟨_, rfl⟩
        rw [hsb] at HC hen ⊢
        have HSB := hid hsb
        clear hsb
        go_wp2_with fail
        refine HC.out.mono ?_
        rintro e w2 ⟨v', rfl, hsm, hU, k2⟩
        obtain ⟨a7, c7, rfl⟩ := ownN_slice hsm
        have HSM := hid hsm
        have HU := hid hU
        have HK2 := hid k2
        have hz2 := k2.size
        have ranges2 : Hid (w2.ranges Tryz.prog 9 ptrE mb w.heap.size h.kv.length (kvD h.kv) (fun z => left z && !z.sameKey (keyL s)) cnt1) := by
          have hlt2 := HR1.out.owns.lt
          have hlt3 := HR1.out.lt
          refine ranges_block HR1.out (k2.block mb hlt2 (fun e => hmbN.out s HS.out (hsH _ e))) (k2.block _ hlt3 (fun e => ?_))
          have := hsL _ (hsH _ e)
          omega
        have HKW2 : Hid (Only S w w2) := (HK.out.trans HK1.out (fun j hj e => by omega)).trans k2 (fun j hj e => hsC j e)
        have HE2 : Hid (E w2) := HP.out.keeps _ _ (k2.mono (fun k _ e => .inl (hsC k e))) HE1.out
        have HACC2 : Hid (SerAt w2 (w.heap.size + 1) (.slice a5 n5 c5) acc) := by
          have h1 := HACC.out.only HK1.out (fun j hB hj e => by omega)
          refine h1.only k2 (fun j hB hj e => ?_)
          have := hsL j (hsH j e)
          omega
        have hleft : ∀ c ∈ h.cs, c ≠ s → (left (keyL c) && !(keyL c).sameKey (keyL s)) = left (keyL c) := fun c hc hne => by
          rw [key_same, decide_eq_false (fun e => hne (pw_inj HA.out.texts hc HS.out e))]
          simp
        have hself : (left (keyL s) && !(keyL s).sameKey (keyL s)) = false := by
          rw [key_same, decide_eq_true rfl]
          simp
        have HCS2 : Hid (∀ c ∈ h.cs, SerOk w2 (if (left (keyL c) && !(keyL c).sameKey (keyL s)) then c else U c)) := fun c hc => by
          by_cases hcs : c = s
          · rw [hcs, hself]
            exact HU.out
          · rw [hleft c hc hcs]
            have h1 := HCS.out c hc
            have h2 : ∀ j, (if left (keyL c) then c else U c).has j → c.has j := fun j hj => by
              split at hj
              · exact hj
              · exact HP.out.has c hc j hj
            refine (h1.only HK1.out (fun j hj e => ?_)).only k2 (fun j hj e => ?_)
            · have := HLT.out c hc j (h2 j hj)
              omega
            · exact hcs (apart_inj HA.out.apart hc HS.out (h2 j hj) (hsH j e))
        have HPC := hid (partM_perm (HST.out.map serC) F)
        have hU0 := hU.blk
        rw [HP.out.b, HP.out.lv, HSB.out] at hU0
        have d0 := hU0.cell 0 rfl
        have hlvv : ∃ a8 c8, s.lv = .slice a8 s.labs.length c8 := by
          have h1 := hU.lab
          rw [HP.out.lv, HP.out.labs] at h1
          exact ownN_slice h1
        obtain ⟨a8, c8, hlv8⟩ := hlvv
        rw [hlv8] at d0
        have hlab2 : LabAt w2 0 (.slice a8 s.labs.length c8) s.labs := by
          have h1 := hU.lab
          rw [HP.out.lv, HP.out.labs, hlv8] at h1
          exact h1
        have HLAB2 := hid hlab2
        have hl16 := (HA.out.made s HS.out).len16
        have HCL := hid (lclone_any w2 _ s.labs (LabAt.src hlab2) (by omega))
        clear hsm hU k2 hU0 hlv8 hlab2 HC hself hleft
        generalize s.labs.length = nl at d0 HCL HLAB2 hl16
        by_cases h0 : (F s.smps).length = 0
        · have HP0 : Hid ((acc.map serV).Perm (partM F ((doneC h.cs (fun z => left z && !z.sameKey (keyL s))).map serC))) := by
            refine HPERM.out.trans (List.Perm.trans ?_ HPC.out.symm)
            rw [List.map_cons, part_cons, if_neg (by show ¬ 0 < (F s.smps).length; omega)]
          have HN0 := hid (show (F s.smps).length = 0 from h0)
          rw [h0] at HSM ⊢
          clear h0 hsC hsH hsL
          go_wp2
          refine ⟨⟨_, cnt1, acc, a5, n5, c5, rfl, HACC2.out, HP0.out, ranges2.out, HKW2.out, HE2.out, by omega, HCS2.out⟩, ?_⟩
          rw [ranges2.out.left_eq, HRG.out.left_eq]
          exact HLTC.out
        · obtain ⟨nf, hnf⟩ : ∃ nf, (F s.smps).length = nf + 1 := ⟨(F s.smps).length - 1, by omega⟩
          have HNF := hid hnf
          rw [hnf] at HSM ⊢
          clear h0 hnf
          have hpos : (0 : Int) < (nf : Int) + 1 := by omega
          go_wp2_with fail
          refine HCL.out.mono ?_
          rintro e w3 ⟨lv', rfl, hlv', k3⟩
          obtain ⟨a9, c9, e9⟩ := ownN_slice hlv'
          have hz3 := k3.size
          have hacl : acc.length ≤ 100000 := by
            have h1 := HPERM.out.length_eq
            rw [List.length_map] at h1
            have h2 := List.length_filter_le (fun x : Ser => decide (0 < x.2.length)) (((doneC h.cs left).map serC).map (fun x => (x.1, F x.2)))
            have h3 : (partM F ((doneC h.cs left).map serC)).length ≤ (((doneC h.cs left).map serC).map (fun x => (x.1, F x.2))).length := h2
            rw [List.length_map, List.length_map] at h3
            have h4 : (doneC h.cs left).length ≤ h.cs.length := List.length_filter_le _ _
            have h5 := HI.out.len
            have h6 := HI.out.ok.len
            omega
          have hsm3 : SmpAt w3 w1.heap.size (.slice a7 (nf + 1) c7) (F s.smps) := ownN_stay HSM.out k3
          obtain ⟨v6, w6, hr6, hser6, k6⟩ := serL_app (HACC2.out.stay k3) (by omega) hacl ⟨lv', .slice a7 (nf + 1) c7, s.labs, F s.smps⟩ (ownN_base hlv' (by omega)) (ownN_base hsm3 (by omega)) (fun y hy k h1 h2 => by
            have hk1 : k < wr.heap.size := by
              rcases h1 with h1 | h1
              · exact (ownN_lt (HACC.out.lab y hy) h1).2
              · exact (ownN_lt (HACC.out.smp y hy) h1).2
            rcases h2 with h2 | h2
            · have := (ownN_lt hlv' h2).1
              omega
            · have := (ownN_lt hsm3 h2).1
              omega)
          obtain ⟨b6, d6, e6⟩ := ownN_slice hser6.row
          obtain ⟨n6, hn6⟩ : ∃ n6, (acc ++ [(⟨lv', .slice a7 (nf + 1) c7, s.labs, F s.smps⟩ : SV)]).length = n6 := ⟨_, rfl⟩
          rw [hn6] at e6
          subst e6
          simp only at hr6
          rw [e9] at hr6
          have HR6 := hid hr6
          have HSER6 := hid hser6
          have hvb : ∀ k, (Value.slice a5 n5 c5).ownBlock = some k → w.heap.size + 1 ≤ k := fun k hk => (ownN_lt HACC.out.row hk).1
          have HK6 : Hid (Only S w w6) := (HKW2.out.trans k3 (fun _ _ f => f.elim)).trans k6 (fun j hj e => by have := hvb j e; omega)
          have ranges6 : Hid (w6.ranges Tryz.prog 9 ptrE mb w.heap.size h.kv.length (kvD h.kv) (fun z => left z && !z.sameKey (keyL s)) cnt1) := by
            have hlt2 := ranges2.out.owns.lt
            have hlt3 := ranges2.out.lt
            have hmbw := hOmb.out
            refine ranges_block ranges2.out ?_ ?_
            · rw [k6.block mb (by omega) (fun e => by have := hvb mb e; omega)]
              exact k3.block mb hlt2 (fun f => f)
            · rw [k6.block _ (by omega) (fun e => by have := hvb _ e; omega)]
              exact k3.block _ hlt3 (fun f => f)
          have HE6 : Hid (E w6) := HP.out.keeps _ _ (k6.mono (fun k _ e => (.inr (by have := hvb k e; omega) : S k ∨ w.heap.size ≤ k))) (HP.out.keeps _ _ (k3.mono (fun _ _ f => f.elim)) HE2.out)
          have HCS6 : Hid (∀ c ∈ h.cs, SerOk w6 (if (left (keyL c) && !(keyL c).sameKey (keyL s)) then c else U c)) := fun c hc => by
            refine ((HCS2.out c hc).only k3 (fun _ _ f => f)).only k6 (fun j hj e => ?_)
            have h2 : c.has j := by
              split at hj
              · exact hj
              · exact HP.out.has c hc j hj
            have h3 := HLT.out c hc j (h2)
            have h4 := hvb j e
            omega
          have HP6 : Hid (((acc ++ [(⟨lv', .slice a7 (nf + 1) c7, s.labs, F s.smps⟩ : SV)]).map serV).Perm (partM F ((doneC h.cs (fun z => left z && !z.sameKey (keyL s))).map serC))) := by
            refine List.Perm.trans ?_ HPC.out.symm
            rw [List.map_cons, part_cons, if_pos (by show 0 < (F s.smps).length; have := HNF.out; omega), List.map_append]
            exact (List.perm_append_singleton _ _).trans (HPERM.out.cons _)
          have hz6 := k6.size
          clear k3 k6 hser6 hr6 hlv' hsm3 hvb hsC hsH hsL HCL hn6
          subst e9
          go_wp2_with (at_builtin; refine Lys.wpList_append_run rfl _ _ _ rfl rfl rfl HR6 ?_)
          refine ⟨⟨_, cnt1, _, b6, n6, d6, rfl, HSER6.out, HP6.out, ranges6.out, HK6.out, HE6.out, by omega, HCS6.out⟩, ?_⟩
          rw [ranges6.out.left_eq, HRG.out.left_eq]
          exact HLTC.out
end Go.Proofs.YtnbfbnhiikliaaaGreat.Hd
