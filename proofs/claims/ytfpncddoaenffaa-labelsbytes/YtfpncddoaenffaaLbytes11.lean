/-
  The law of values of all bytes.
-/
import Derived.Test.YtfpncddoaenffaaNparse
import Derived.Test.YtfpncddoaenffaaNalive
import Derived.Test.YtfpncddoaenffaaNopen
namespace Go.Proofs.Ytfpncddoaenffaa.N
open Go.RowKit Go.Proofs.Lys
set_option linter.unusedVariables false
set_option linter.unusedSimpArgs false

theorem str_of {w : World} {v : Value} {bs : List UInt8} (h : SrcOf w v (bs.map bV)) : (convert 41 9 v).run Try.prog w = .ok (.string ⟨bs.toArray⟩) w := by
  rcases h with ⟨rfl, e⟩ | ⟨a, c, rfl, hc⟩
  · have : bs = [] := List.map_eq_nil_iff.1 e
    subst this
    exact run_convert_bytes_nil (P := Try.prog) w 41 5 Try.underlying41 Try.underlying5 0 0 9 Try.underlying9
  · rw [List.length_map]
    refine run_convert_bytes_back (P := Try.prog) w 41 9 5 a c bs Try.underlying41 Try.underlying5 Try.underlying9 (fun j hj => ?_)
    exact hc j _ (by rw [List.getElem?_map, List.getElem?_eq_getElem hj]; rfl)
theorem one_made {bs : List UInt8} (h1 : 1 ≤ bs.length) (h2 : bs.length ≤ 64) : Made [(⟨#[120]⟩, mkB bs)] := by
  refine ⟨by simp, by simp, fun x hx => ?_, by simp [Rise]⟩
  have := List.mem_singleton.1 hx
  subst this
  unfold labOk
  have hv : valOk (mkB bs) = true := by
    unfold valOk
    rw [mkB_size, decide_eq_true (by omega), decide_eq_true h2]
    rfl
  rw [hv]
  show (nameOk ⟨#[120]⟩ && true) = true
  decide +kernel

set_option maxRecDepth 100000 in
set_option maxHeartbeats 1600000 in
theorem bytes11_walk (w : World) (v : Value) (bs : List UInt8) (hM : Mx w) (hs : SrcOf w v (bs.map bV)) (hl : bs.length ≤ 1000000000000000) :
    Calls Try.prog 7 #[v] w fun e w' => e = .returned (.bool true) ∧ Kept w w' := by
  have HMx := hid hM
  have HS := hid hs
  obtain ⟨a0, c0, e0⟩ := hs.len
  rw [List.length_map] at e0
  subst e0
  have H0 := hid (alive_any w)
  clear hM hs
  by_cases hr : 1 ≤ bs.length ∧ bs.length ≤ 64
  · obtain ⟨h1, h64⟩ := hr
    have hmade := one_made h1 h64
    have HD := hid hmade
    have htx : txtB [(⟨#[120]⟩, mkB bs)] = mkB (textL [(⟨#[120]⟩, mkB bs)]) := by unfold txtB; rw [hmade.make]
    have hpar : parseL (textL [(⟨#[120]⟩, mkB bs)]) = some [(⟨#[120]⟩, mkB bs)] := parse_iff.2 ⟨hmade, rfl⟩
    have HRg := hid (text_range hmade)
    have hsm : Small [(⟨#[120]⟩, mkB bs)] := fun x hx => by
      have := hmade.ok x hx
      simp only [labOk, nameOk, valOk, Bool.and_eq_true, decide_eq_true_eq] at this
      omega
    have HSm := hid hsm
    have htl : (textL [(⟨#[120]⟩, mkB bs)]).length ≤ 1000 := by
      have := accT_len (l := [(⟨#[120]⟩, mkB bs)]) hmade.ok
      unfold textL
      rw [List.length_append]
      simp at this ⊢
      omega
    have Htx := hid htx
    have Hpar := hid hpar
    clear htx hpar hsm hmade
    have hb : bs.length ≠ 0 := by omega
    generalize hT : textL [(⟨#[120]⟩, mkB bs)] = T at Htx Hpar HRg htl
    have h1' : ¬ ((bs.length : Int) < 1) := by omega
    have h64' : ¬ ((64 : Int) < (bs.length : Int)) := by omega
    go_enter Try.func7, Try.ntmps7
    go_wp2_with fail
    refine H0.out.mono ?_
    rintro e w1 ⟨rfl, k1⟩
    have hcv := str_of (HS.out.stay k1)
    rw [show (⟨bs.toArray⟩ : ByteArray) = mkB bs from rfl] at hcv
    have HK1 := hid k1
    clear k1 hT
    have H1 := hid (text_any (w1.alloc (.cells #[.string ⟨#[120]⟩, .string (mkB bs)] 30)) (.slice (some ⟨w1.heap.size, 0, none⟩) 1 1) [(⟨#[120]⟩, mkB bs)] (lab_lit w1 (⟨#[120]⟩, mkB bs)) (by simp) HSm.out)
    rw [Htx.out] at H1
    have HL1 := hid (lab_lit w1 (⟨#[120]⟩, mkB bs))
    have HK2 := hid (HK1.out.alloc (.cells #[.string ⟨#[120]⟩, .string (mkB bs)] 30))
    go_wp2_with fail
    refine H1.out.mono ?_
    rintro e w2 ⟨rfl, k2⟩
    have HK3 := hid (HK2.out.trans k2 (fun _ _ f => f))
    have HL2 := hid (HL1.out.stay k2)
    have H2 := hid (parse_any w2 (mkB T) (HMx.out.stay HK3.out) (by rw [mkB_size]; omega))
    have e3 : (mkB T).data.toList = T := rfl
    rw [e3, Hpar.out] at H2
    clear k2 H1 e3
    go_wp2_with fail
    refine H2.out.mono ?_
    rintro e w3 ⟨⟨u, n, rfl, rfl, hat⟩, k3⟩
    have HK4 := hid (HK3.out.trans k3 (fun _ _ f => f))
    have HL3 := hid (HL2.out.stay k3)
    obtain ⟨oa, oc, rfl⟩ := ownN_slice hat
    have HA := hid hat
    clear hat k3 H2
    have HTb : Hid (∀ k (hk : k < (mkB T).size), 32 ≤ ((mkB T)[k]'hk).toNat ∧ ((mkB T)[k]'hk).toNat ≤ 126) := fun k hk => by
      have hm : (mkB T)[k]'hk ∈ T := by
        have hk' : k < T.length := by rw [mkB_size] at hk; exact hk
        have := List.getElem_mem hk'
        exact this
      exact HRg.out _ hm
    have hTs : (mkB T).size ≤ 1000 := by rw [mkB_size]; omega
    have H3 := hid (num_any w3 0)
    have H4 := hid (same_any w3 _ _ [(⟨#[120]⟩, mkB bs)] (LabAt.src HA.out) HL3.out (by simp))
    clear htl HRg
    generalize mkB T = Tb at HTb hTs ⊢
    go_wp2
    go_loop [8] (fun i => ∃ (k : Nat), k ≤ Tb.size ∧ i = .int .i64 (k : Int)) (fun i => Tb.size - (intOf i).toNat)
    case atStart => exact ⟨0, by omega, rfl⟩
    case round =>
      obtain ⟨k, hk, rfl⟩ := hrel
      by_cases hlt : k < Tb.size
      · obtain ⟨q1, q2⟩ := HTb.out k hlt
        have hcl := (Tb[k]'hlt).toNat_lt
        generalize hc : Tb[k]'hlt = c at q1 q2 hcl
        have q1' : ¬ ((c.toNat : Int) < 32) := by omega
        have q2' : ¬ ((126 : Int) < (c.toNat : Int)) := by omega
        go_wp2
        all_goals first
          | exact ⟨⟨k + 1, by omega, by go_num⟩, by simp [intOf]; omega⟩
          | (go_round
             case rel => exact ⟨k + 1, by omega, by go_num⟩
             case measure => simp [intOf]; omega)
          | (exfalso; omega)
      · have e : k = Tb.size := by omega
        subst e
        go_wp2_with fail
        refine H3.out.mono ?_
        rintro e w4 ⟨rfl, hq⟩
        replace hq := hq.symm
        subst hq
        go_wp2_with fail
        refine H4.out.mono ?_
        rintro e w4 ⟨rfl, k4⟩
        go_wp2
        go_ret
        exact ⟨rfl, HK4.out.trans k4 (fun _ _ f => f)⟩
  · go_enter Try.func7, Try.ntmps7
    go_wp2_with fail
    refine H0.out.mono ?_
    rintro e w1 ⟨rfl, k1⟩
    go_wp2
    all_goals try (exfalso; omega)
    all_goals first
      | (go_ret; exact ⟨rfl, k1⟩)
      | (exfalso; simp_all; omega)
end Go.Proofs.Ytfpncddoaenffaa.N
