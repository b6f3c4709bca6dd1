/-
  Cut: all samples ahead of a time are taken away, and told.
-/
import Derived.Test.YtnbfbnhiikliaaaGreatHcut2
namespace Go.Proofs.YtnbfbnhiikliaaaGreat.Hd
open Go.RowKit Go.Proofs.Lys Go.Maps Go.Proofs.YtnbfbnhiikliaaaGreat.N
set_option linter.unusedVariables false
set_option linter.unusedSimpArgs false

theorem cut1_any (w : World) (c : SerC) (S : SerOk w c) (hr : RiseS c.smps) (hl : c.smps.length ≤ 100000) (low : Int) (bx : Nat) (hbx : w.cell? ⟨bx, 0, none⟩ = some (.int .i64 low)) :
    Calls Tryz.prog 42 #[.pointer (some ⟨c.b, 0, none⟩), .pointer (some ⟨bx, 0, none⟩)] w fun e w' => ∃ v', e = .returned v' ∧ SmpAt w' w.heap.size v' (goneS low c.smps) ∧ SerOk w' (cutC low c) ∧ Only (fun k => c.has k) w w' := by
  have H := hid (cut_any w c S hr hl low)
  clear S
  obtain ⟨cb, hcb⟩ : ∃ cb, c.b = cb := ⟨_, rfl⟩
  rw [hcb] at H ⊢
  clear hcb
  go_enter Tryz.func42, Tryz.ntmps42
  go_wp2_with fail
  refine H.out.mono ?_
  rintro e w1 ⟨v', rfl, h1⟩
  have H1 := hid h1
  clear h1 H
  go_wp2
  go_ret
  exact ⟨_, rfl, H1.out⟩
theorem cut2_any (w : World) (c : SerC) (S : SerOk w c) (key : Value) :
    Calls Tryz.prog 45 #[key, .pointer (some ⟨c.b, 0, none⟩)] w fun e w' => e = .returned (.bool (decide (c.smps.length = 0))) ∧ w' = w := by
  have d1 := S.blk.cell 1 rfl
  obtain ⟨a3, c3, hsv⟩ := ownN_slice S.smp
  rw [hsv] at d1
  clear S hsv
  generalize c.b = cb at *
  generalize c.smps.length = n at *
  by_cases h0 : n = 0
  · subst h0
    go_enter Tryz.func45, Tryz.ntmps45
    go_wp2
    go_ret
    exact ⟨rfl, rfl⟩
  · obtain ⟨m, rfl⟩ : ∃ m, n = m + 1 := ⟨n - 1, by omega⟩
    have hd : ((m : Int) + 1 == 0) = false := by simp; omega
    go_enter Tryz.func45, Tryz.ntmps45
    go_wp2
    go_ret
    refine ⟨?_, rfl⟩
    simp
    try omega

/-- A pointer to one of these series. -/
def ptrR (cs : List SerC) (v : Value) : Option (DataW Unit × List MemPlace) :=
  match v with
  | .pointer (some ⟨b, 0, none⟩) => if cs.any (fun c => c.b == b) then some (.lit (.int .i64 b), []) else none
  | _ => none
theorem ptrR_ptrE {cs : List SerC} {v : Value} {z : DataW Unit × List MemPlace} (h : ptrR cs v = some z) : ptrE v = some z := by
  unfold ptrR at h
  split at h
  · split at h
    · exact h
    · cases h
  · cases h
theorem ptrR_mem {cs : List SerC} {v : Value} {z : DataW Unit × List MemPlace} (h : ptrR cs v = some z) : ∃ c ∈ cs, v = .pointer (some ⟨c.b, 0, none⟩) ∧ z.1 = .lit (.int .i64 (c.b : Int)) := by
  unfold ptrR at h
  split at h
  · split at h
    · rename_i b hb
      obtain ⟨c, hc, e⟩ := List.any_eq_true.1 hb
      have e : c.b = b := by simpa using e
      cases h
      exact ⟨c, hc, by rw [e], by rw [e]⟩
    · cases h
  · cases h
theorem own_change {R R' : Value → Option (DataW Unit × List MemPlace)} {W : World} {mb n : Nat} {D : DataW Unit} (hm : W.ownsMap Tryz.prog 9 R mb n D)
    (hs : ∀ v z, R v = some z → (∃ es k, D = .map es ∧ (k, z.1) ∈ es) → R' v = some z) : W.ownsMap Tryz.prog 9 R' mb n D := by
  obtain ⟨es, clock, hb, F, hsz, hD⟩ := hm
  have key : ∀ x ∈ es.toList, ∀ z, R x.val = some z → R' x.val = some z := fun x hx z hz => by
    obtain ⟨y, hy⟩ := F.reads x hx
    obtain ⟨z', hz', e⟩ := WideElems.rd_val hy
    rw [hz] at hz'
    cases hz'
    refine hs _ _ hz ⟨_, y.1, hD, ?_⟩
    have h1 : WideElems.rg Tryz.prog 9 R x ∈ es.toList.map (WideElems.rg Tryz.prog 9 R) := List.mem_map.2 ⟨x, hx, rfl⟩
    rw [WideElems.rg_of hy] at h1
    refine mem_sorted.2 ?_
    rw [← e]
    exact h1
  obtain ⟨F1, hmap, _⟩ := F.stay key
  exact ⟨es, clock, hb, F1, hsz, by rw [hD, hmap]⟩
theorem own_ptrR {w : World} {h : HeadC} {O : Nat → Prop} (hA : HeadAt w h O) {W : World} {mb n : Nat} (hm : W.ownsMap Tryz.prog 9 ptrE mb n (kvD h.kv)) : W.ownsMap Tryz.prog 9 (ptrR h.cs) mb n (kvD h.kv) := by
  refine own_change hm (fun v z hz => ?_)
  rintro ⟨es, k, hD, hmem⟩
  obtain ⟨z1, z2⟩ := z
  unfold kvD at hD
  cases hD
  obtain ⟨p, hp, e⟩ := List.mem_map.1 hmem
  have e1 : DataW.lit (.int .i64 p.2) = z1 := congrArg Prod.snd e
  obtain ⟨c, hc, e2⟩ := List.mem_map.1 (hA.perm.mem_iff.1 hp)
  have e3 : (c.b : Int) = p.2 := congrArg Prod.snd e2
  rw [← e3] at e1
  subst e1
  have hv := ptrE_some hz
  subst hv
  rw [ptrE_mk] at hz
  unfold ptrR
  simp only
  rw [if_pos (List.any_eq_true.2 ⟨c, hc, by simp⟩)]
  exact hz

/-- Is a series empty? -/
def emptyB (cs : List SerC) (b : Int) : Bool := cs.any (fun c => decide ((c.b : Int) = b) && decide (c.smps.length = 0))
def pdE (cs : List SerC) (_ : Lit) (d : DataW Unit) : Bool :=
  match d with
  | .lit (.int _ b) => emptyB cs b
  | _ => false
theorem empty_at {cs : List SerC} (hp : cs.Pairwise (fun a b => ∀ k, a.has k → ¬ b.has k)) {c : SerC} (hc : c ∈ cs) : emptyB cs (c.b : Int) = decide (c.smps.length = 0) := by
  unfold emptyB
  by_cases h0 : c.smps.length = 0
  · rw [decide_eq_true h0]
    exact List.any_eq_true.2 ⟨c, hc, by simp [h0]⟩
  · rw [decide_eq_false h0]
    rw [List.any_eq_false]
    intro d hd
    simp only [Bool.and_eq_true, decide_eq_true_eq, not_and]
    intro e
    have : d = c := apart_inj hp hd hc (k := d.b) (.inl rfl) (.inl (by omega))
    rw [this]
    exact h0
/-- A head whose empty series are struck. -/
theorem head_strike {w w' : World} {h : HeadC} {O : Nat → Prop} (hA : HeadAt w h O) {mb n : Nat} (hmv : h.mv = some mb) (hm : w'.ownsMap Tryz.prog 9 ptrE mb n (kvD (h.kv.filter (fun p => !emptyB h.cs p.2)))) (k : Only (fun j => j = mb) w w') :
    HeadAt w' { h with kv := h.kv.filter (fun p => !emptyB h.cs p.2), cs := h.cs.filter (fun c => decide (0 < c.smps.length)) } O := by
  have hsub : ∀ c, c ∈ h.cs.filter (fun c => decide (0 < c.smps.length)) → c ∈ h.cs := fun c hc => (List.mem_filter.1 hc).1
  refine ⟨k.blk hA.blk (hA.mbNe hmv).1, ?_, ?_, ?_, ?_, ?_, ?_, ?_, ?_, ?_, hA.win0⟩
  · intro mb' e
    have : mb' = mb := by rw [hmv] at e; exact (Option.some.inj e).symm
    subst this
    exact kv_tight hm
  · intro e
    rw [hmv] at e
    cases e
  · show (h.kv.filter _).Perm ((h.cs.filter _).map keyC)
    refine (hA.perm.filter _).trans (List.Perm.of_eq ?_)
    rw [List.filter_map]
    congr 1
    refine List.filter_congr (fun c hc => ?_)
    show (!emptyB h.cs (c.b : Int)) = _
    rw [empty_at hA.apart hc]
    by_cases h0 : c.smps.length = 0
    · simp [h0]
    · have : 0 < c.smps.length := by omega
      simp [h0, this]
  · intro s hs
    exact (hA.each s (hsub s hs)).only k (fun j hj e => (hA.mbNe hmv).2 s (hsub s hs) (by rw [← e]; exact hj))
  · intro s hs
    exact hA.made s (hsub s hs)
  · exact hA.apart.filter _
  · exact hA.texts.filter _
  · rintro j (e | e | ⟨s, hs, hj⟩)
    · exact hA.own j (.inl e)
    · exact hA.own j (.inr (.inl e))
    · exact hA.own j (.inr (.inr ⟨s, hsub s hs, hj⟩))
  · intro j hj
    exact Nat.lt_of_lt_of_le (hA.lt j hj) k.size
/-- A head whose series are cut. -/
theorem head_cut {w w' : World} {h : HeadC} {O : Nat → Prop} (hA : HeadAt w h O) (low : Int) (k : Only (fun j => ∃ c ∈ h.cs, c.has j) w w') (hS : ∀ c ∈ h.cs, SerOk w' (cutC low c)) : HeadAt w' { h with cs := h.cs.map (cutC low) } O := by
  refine ⟨k.blk hA.blk ?_, ?_, hA.nil, ?_, ?_, ?_, ?_, ?_, ?_, ?_, hA.win0⟩
  · rintro ⟨c, hc, e⟩
    exact hA.hbNe hc e
  · intro mb e
    refine k.map (hA.map mb e) ?_
    rintro ⟨c, hc, e2⟩
    exact (hA.mbNe e).2 c hc e2
  · show h.kv.Perm ((h.cs.map (cutC low)).map keyC)
    rw [List.map_map]
    exact hA.perm
  · intro s hs
    obtain ⟨c, hc, rfl⟩ := List.mem_map.1 hs
    exact hS c hc
  · intro s hs
    obtain ⟨c, hc, rfl⟩ := List.mem_map.1 hs
    exact hA.made c hc
  · show (h.cs.map (cutC low)).Pairwise _
    rw [List.pairwise_map]
    exact hA.apart.imp (fun {a b} hab j h1 h2 => hab j ((cut_has low a j).1 h1) ((cut_has low b j).1 h2))
  · show (h.cs.map (cutC low)).Pairwise _
    rw [List.pairwise_map]
    exact hA.texts
  · rintro j (e | e | ⟨s, hs, hj⟩)
    · exact hA.own j (.inl e)
    · exact hA.own j (.inr (.inl e))
    · obtain ⟨c, hc, rfl⟩ := List.mem_map.1 hs
      exact hA.own j (.inr (.inr ⟨c, hc, (cut_has low c j).1 hj⟩))
  · intro j hj
    exact Nat.lt_of_lt_of_le (hA.lt j hj) k.size
theorem part_cut {h : HeadC} {M : Mod} (hI : Is h M) (hc : countM M ≤ 100000) (low : Int) (bx B : Nat) (hbx : bx < B) (hns : ∀ c ∈ h.cs, ¬ c.has bx) : Part 42 #[.pointer (some ⟨bx, 0, none⟩)] (goneS low) (cutC low) (fun W => W.cell? ⟨bx, 0, none⟩ = some (.int .i64 low)) (fun c k => c.has k) (fun j => ∃ c ∈ h.cs, c.has j) B h.cs where
  enters := enters_of Tryz.func42 (by kernel_rfl) rfl
  keeps := fun W W' k hE => by
    refine only_cell k (fun e => ?_) hE
    rcases e with ⟨c, hc, e⟩ | e
    · exact hns c hc e
    · have e : B ≤ bx := e
      omega
  b := fun _ => rfl
  lv := fun _ => rfl
  labs := fun _ => rfl
  has := fun c _ k h => (cut_has low c k).1 h
  sub := fun c hc k h => ⟨h, c, hc, h⟩
  call := fun W c hc' hS hE => cut1_any W c hS (hI.ok.rise _ (hI.perm.mem_iff.1 (List.mem_map.2 ⟨c, hc', rfl⟩))) (by have := cs_len hI hc'; omega) low bx hE

/-- What Cut leaves. -/
def CutP (w : World) (h : HeadC) (O : Nat → Prop) (M : Mod) (low : Int) (e : Ending) (w' : World) : Prop :=
  ∃ v qs h', e = .returned v ∧ SerAt w' w.heap.size v qs ∧ qs.map serV = partM (goneS low) M ∧ HeadAt w' h' O ∧ Is h' (partM (stayS low) M) ∧ Only O w w' ∧ h'.hb = h.hb ∧ h'.win = h.win
theorem is_cut {h : HeadC} {M : Mod} (hI : Is h M) (low : Int) : ((((h.cs.map (cutC low)).filter (fun c => decide (0 < c.smps.length))).map serC).Perm (partM (stayS low) M)) := by
  refine List.Perm.trans (List.Perm.of_eq ?_) (partM_perm hI.perm (stayS low))
  unfold partM
  rw [List.map_map, List.filter_map, List.filter_map, List.map_map]
  rfl
theorem filter_del (kv : KV) (cs : List SerC) : Lib.deleteFuncD (pdE cs) (kvD kv) = kvD (kv.filter (fun p => !emptyB cs p.2)) := by
  unfold Lib.deleteFuncD kvD
  simp only
  congr 1
  rw [List.filter_map]
  rfl
set_option maxHeartbeats 1600000 in
theorem head_cut_any {w : World} {h : HeadC} {O : Nat → Prop} {M : Mod} (hA : HeadAt w h O) (hI : Is h M) (hc : countM M ≤ 100000) (low : Int) :
    Calls Tryz.prog 19 #[.pointer (some ⟨h.hb, 0, none⟩), .int .i64 low] w (CutP w h O M low) := by
  have k0 : Kept w (w.alloc (.cells #[.int .i64 low] 3)) := (Only.refl _ w).alloc _
  have bx := Blk.new w [.int .i64 low] 3
  have hA0 := hA.stay k0
  have HG := hid (gather_any hA0 hI (S := fun j => ∃ c ∈ h.cs, c.has j) (fun k hk => by
      obtain ⟨c, hc', hk⟩ := hk
      exact (hA0.each c hc').lt hk) (part_cut hI hc low w.heap.size _ (by simp) (fun c hc' e => by have := (hA.each c hc').lt e; omega)) (bx.cell 0 rfl))
  have hmf : ∀ (fn : Fn) (first cap : Array Value) (w : World), (Instr.makeFunc fn first cap).run Tryz.prog w = .ok (.func fn first cap) w := fun _ _ _ _ => rfl
  have HA := hid hA
  have HI := hid hI
  have K0 := hid k0
  clear hA0 bx k0 hA hI
  obtain ⟨hb, hhb⟩ : ∃ hb, h.hb = hb := ⟨_, rfl⟩
  rw [hhb] at HG ⊢
  have HHB := hid hhb
  clear hhb
  go_enter Tryz.func19, Tryz.ntmps19
  go_wp2_with fail
  refine HG.out.mono ?_
  rintro e w1 ⟨v, qs, rfl, h1, h2, h3, h4, _⟩
  obtain ⟨a5, c5, e5⟩ := ownN_slice h1.row
  obtain ⟨n5, hn5⟩ : ∃ n5, qs.length = n5 := ⟨_, rfl⟩
  rw [hn5] at e5
  subst e5
  have hz0 : w.heap.size ≤ (w.alloc (.cells #[.int .i64 low] 3)).heap.size := K0.out.size
  have hz1 := h3.size
  have hA1 := head_cut (HA.out.stay K0.out) low h3 h4
  have H1 := hid (SerAt.base h1 hz0)
  have H2 := hid h2
  have hOS : ∀ j, (∃ c ∈ h.cs, c.has j) → O j := fun j hj => HA.out.own j (.inr (.inr hj))
  have H3 : Hid (Only O w w1) := (K0.out.mono (fun _ _ f => f.elim)).trans h3 (fun j _ e => hOS j e)
  have HA1 := hid hA1
  have m1 := hA1.blk.cell 1 rfl
  have m1 : w1.cell? ⟨hb, 1, none⟩ = some (.map h.mv) := by rw [← HHB.out]; exact m1
  clear h1 h2 h3 h4 HG hn5 hA1
  have HOK := hid (HI.out.ok.stay low)
  cases hmv : h.mv with
  | none =>
    have hcs : h.cs = [] := by
      have e1 := HA.out.nil hmv
      have e2 := HA.out.len
      rw [e1] at e2
      exact List.length_eq_zero_iff.1 e2.symm
    have HCS := hid hcs
    have HD := hid (AnyDf.maps_DeleteFunc_nil Tryz.delP (.func (.func 45) #[] #[]) w1)
    rw [hmv] at m1
    clear hcs hmv
    go_wp2_with fail
    refine HD.out.mono ?_
    rintro e w2 ⟨rfl, hw2⟩
    have k2 : Kept w1 w2 := by rw [hw2]; exact (Only.refl _ w1).alloc _
    have HK2 := hid k2
    clear hw2 k2 HD
    go_wp2
    go_ret
    have hI0 : Is { h with cs := h.cs.map (cutC low) } (partM (stayS low) M) := by
      refine ⟨?_, HOK.out⟩
      have e1 := is_cut HI.out low
      rw [HCS.out] at e1 ⊢
      exact e1
    exact ⟨_, qs, _, rfl, H1.out.stay HK2.out, H2.out, HA1.out.stay HK2.out, hI0, H3.out.trans HK2.out (fun _ _ f => f.elim), rfl, rfl⟩
  | some mb =>
    have hm1 := own_ptrR HA1.out (HA1.out.map mb hmv)
    have eg : ∀ args w, (callFunc 45 args).run Tryz.prog w = .ok (.enter 45 args) w := enters_of Tryz.func45 (by kernel_rfl) rfl
    have HD := hid (AnyDf.maps_DeleteFunc Tryz.delP law (ptrR (h.cs.map (cutC low))) (pdE (h.cs.map (cutC low))) 45 #[] mb _ _ w1 eg hm1 (fun W key val kl yd yp hg hkey hv => by
      obtain ⟨c, hc', rfl, e⟩ := ptrR_mem hv
      simp only at e
      subst e
      have kW : Only (fun j => j = mb) w1 W := (Only.refl _ w1).grown hg (fun j e _ => by cases e; rfl)
      have hS := (HA1.out.each c hc').only kW (fun j hj e => (HA1.out.mbNe hmv).2 c hc' (by rw [← e]; exact hj))
      refine (cut2_any W c hS key).mono ?_
      rintro e w' ⟨rfl, rfl⟩
      refine ⟨?_, World.grownBy.refl _ _⟩
      show Ending.returned (.bool (decide (c.smps.length = 0))) = .returned (.bool (emptyB (h.cs.map (cutC low)) (c.b : Int)))
      rw [empty_at HA1.out.apart hc']))
    have HMV := hid hmv
    rw [hmv] at m1
    clear hmv hm1
    go_wp2_with fail
    refine HD.out.mono ?_
    rintro e w2 ⟨rfl, hm2, hg2⟩
    have k2 : Only (fun j => j = mb) w1 w2 := (Only.refl _ w1).grown hg2 (fun j e _ => by cases e; rfl)
    have hm3 : w2.ownsMap Tryz.prog 9 ptrE mb h.kv.length (kvD (h.kv.filter (fun p => !emptyB (h.cs.map (cutC low)) p.2))) := by
      rw [← filter_del]
      exact own_change hm2 (fun v z hz _ => ptrR_ptrE hz)
    have HF := hid (head_strike HA1.out HMV.out hm3 k2)
    have HK2 := hid k2
    have hmbO := hid (HA.out.own mb (.inr (.inl HMV.out)))
    clear hm2 hg2 hm3 k2 HD
    go_wp2
    go_ret
    have hmlt := HA.out.lt mb hmbO.out
    exact ⟨_, qs, _, rfl, H1.out.only HK2.out (fun j hB _ e => by omega), H2.out, HF.out, ⟨is_cut HI.out low, HOK.out⟩, H3.out.trans HK2.out (fun j _ e => by rw [e]; exact hmbO.out), rfl, rfl⟩
end Go.Proofs.YtnbfbnhiikliaaaGreat.Hd
