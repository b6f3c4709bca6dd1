/-
  Labels by rising name: the insertion.
-/
import Derived.Test.YtcacoanhiphbiaaNins
import Derived.WalkMore
import Derived.Laws.MakeOwn
namespace Go.Proofs.Ytcacoanhiphbiaa.N
open Go.RowKit Go.Proofs.Lys
set_option linter.unusedVariables false
set_option linter.unusedSimpArgs false

theorem eq_str (X Y : ByteArray) : (X.toList == Y.toList) = decide (cmpB X Y = 0) := by
  rw [ByteArray.toList_eq, ByteArray.toList_eq]
  by_cases h : cmpB X Y = 0
  · have := cmpB_good.zero X Y h
    subst this
    simp [h]
  · have hne : X ≠ Y := fun e => h (by rw [e]; exact cmpB_good.self Y)
    have h2 : X.data.toList ≠ Y.data.toList := fun e => hne (bytes_inj e)
    rw [decide_eq_false h]
    simpa using h2
theorem lt_str (X Y : ByteArray) : Op.bytesLess X.toList Y.toList = decide (cmpB X Y = -1) := by
  rw [ByteArray.toList_eq, ByteArray.toList_eq, less_cmp]
  rfl

/-- What stands ahead of a place is less. -/
def Past (x : Lab) (acc : Labs) (j : Nat) : Prop := ins x acc = (ins x (acc.drop j)).map (acc.take j ++ ·)
theorem past_start (x : Lab) (acc : Labs) : Past x acc 0 := by
  unfold Past
  simp
theorem past_step {x : Lab} {acc : Labs} {j : Nat} (h : Past x acc j) (hj : j < acc.length) (h0 : cmpB x.1 acc[j].1 ≠ 0) (h1 : cmpB x.1 acc[j].1 ≠ -1) : Past x acc (j + 1) := by
  unfold Past at h ⊢
  rw [h, List.drop_eq_getElem_cons hj, ins, if_neg h0, if_neg h1, Option.map_map]
  congr 1
  funext z
  show acc.take j ++ (acc[j] :: z) = acc.take (j + 1) ++ z
  rw [← List.take_append_getElem hj, List.append_assoc]
  rfl
theorem past_end {x : Lab} {acc : Labs} {j : Nat} (h : Past x acc j) (hj : j = acc.length) : ins x acc = some (acc ++ [x]) := by
  unfold Past at h
  subst hj
  rw [h]
  simp [ins]
theorem past_eq {x : Lab} {acc : Labs} {j : Nat} (h : Past x acc j) (hj : j < acc.length) (h0 : cmpB x.1 acc[j].1 = 0) : ins x acc = none := by
  unfold Past at h
  rw [h, List.drop_eq_getElem_cons hj, ins, if_pos h0]
  rfl
theorem past_lt {x : Lab} {acc : Labs} {j : Nat} (h : Past x acc j) (hj : j < acc.length) (h1 : cmpB x.1 acc[j].1 = -1) : ins x acc = some (acc.take j ++ x :: acc.drop j) := by
  unfold Past at h
  rw [h, List.drop_eq_getElem_cons hj, ins, if_neg (by omega), if_pos h1]
  rfl
theorem insAll_app (a l r : Labs) : insAll a (l ++ r) = (insAll a l).bind (fun b => insAll b r) := by
  induction l generalizing a with
  | nil => rfl
  | cons x l ih =>
    show (ins x a).bind _ = ((ins x a).bind _).bind _
    cases h : ins x a with
    | none => rfl
    | some b => exact ih b
theorem insAll_step {l acc : Labs} {k : Nat} (hk : k < l.length) (h : insAll [] (l.take k) = some acc) : insAll [] (l.take (k + 1)) = ins l[k] acc := by
  rw [← List.take_append_getElem hk, insAll_app, h]
  show (ins l[k] acc).bind (fun b => insAll b []) = _
  cases ins l[k] acc <;> rfl
theorem insAll_none {l acc : Labs} {k : Nat} (hk : k < l.length) (h : insAll [] (l.take k) = some acc) (hn : ins l[k] acc = none) : insAll [] l = none := by
  have e := insAll_step hk h
  rw [hn] at e
  rw [← List.take_append_drop (k + 1) l, insAll_app, e]
  rfl

/-- A label behind labels that have room. -/
theorem room_append {w : World} {B g cap xb : Nat} {l : Labs} {x : Lab} (h : LabAt w B (.slice (some ⟨g, 0, none⟩) l.length cap) l) (hroom : l.length + 1 ≤ cap) (hx : Blk w xb [.string x.1, .string x.2] 45) (hne : xb ≠ g) :
    ∃ w', Hid ((Builtin.append_ #[26, 26] 0 #[.slice (some ⟨g, 0, none⟩) l.length cap, .slice (some ⟨xb, 0, none⟩) 1 1]).run Try.prog w = .ok (.slice (some ⟨g, 0, none⟩) (l.length + 1) cap) w') ∧
      LabAt w' B (.slice (some ⟨g, 0, none⟩) (l.length + 1) cap) (l ++ [x]) ∧ Only (fun k => k = g) w w' := by
  obtain ⟨hl, hrest⟩ := h
  obtain ⟨cur, hb, hg, hcm, hcs, htake⟩ : ∃ cur, B ≤ g ∧ w.heap[g]? = some (.cells cur 45 (0, 0)) ∧ cap ≤ maxLen ∧ cur.size = cap * 2 ∧ cur.toList.take (l.length * 2) = labL l := by
    rcases hrest with ⟨e, _⟩ | ⟨g', cap', cur, hv, hb, hg, _, hm, hs, ht⟩
    · cases e
    · simp only [Value.slice.injEq, Option.some.injEq, Addr.mk.injEq] at hv
      obtain ⟨⟨rfl, _⟩, _, rfl⟩ := hv
      exact ⟨cur, hb, hg, hm, hs, ht⟩
  obtain ⟨i0, hi0, hz0, hz1, hz2⟩ := info_parts Try.infoLab
  have hr := run_append_room (P := Try.prog) w 26 0 45 i0 Try.underlying26 hi0 g l.length cap cur hg ⟨xb, 0, none⟩ 1 1 [.string x.1, .string x.2] (by rw [hz1]; rfl)
    (fun j u hj => by rw [add_none, Nat.zero_add]; exact hx.cell j hj) (by intro v hv; simp at hv; rcases hv with rfl | rfl <;> rfl) hroom (by rw [hz1]; simp; omega)
  rw [hz1, htake] at hr
  refine ⟨_, hr, ⟨?_, .inr ⟨g, cap, _, by simp, hb, setRow_heap w g cur _ _ _ hg, by simpa using hroom, hcm, ?_, ?_⟩⟩, ⟨rfl, rfl, rfl, by simp, fun k hk hn => setRow_other _ _ _ _ hn⟩⟩
  · exact labL_len _
  · have : cur.toList.length = cap * 2 := by simpa using hcs
    simp [labL_len]
    omega
  · have e : labL (l ++ [x]) = labL l ++ [.string x.1, .string x.2] := by rw [labL_app]; rfl
    rw [e]
    simp only [List.length_append, List.length_singleton]
    rw [List.take_left']
    simp [labL_len]
    omega

/-- What the insertion answers. -/
def SortA (w : World) (B : Nat) (u : Value) (b : Bool) : Option Labs → Prop
  | some m => b = true ∧ LabAt w B u m
  | none => b = false ∧ u = .slice none 0 0

end Go.Proofs.Ytcacoanhiphbiaa.N
