import Derived.Test.YtbfmoiaedopeiaaDoorPart05
import Derived.Deep.RegionLaw
import Derived.Test.YtbfmoiaedopeiaaDoorPart04
import Derived.Test.YtbfmoiaedopeiaaDoorPart01
import Derived.ProofKit
import Derived.OpenShut
import Derived.ShutString
import Derived.ChangeOld
import Derived.Deep.Slices
import Derived.SizedLaws

/- word, head. -/
namespace Go.Proofs.YtbfmoiaedopeiaaDoor
open Go.RowKit
set_option linter.unusedVariables false

theorem d8 : (⟨(Lib.decDigits 8).toArray⟩ : ByteArray) = ⟨#[56]⟩ := by rw [Lib.decDigits_one (by decide)]; rfl
theorem d16 : (⟨(Lib.decDigits 16).toArray⟩ : ByteArray) = ⟨#[49, 54]⟩ := by rw [Lib.decDigits_two (by decide) (by decide)]; rfl
theorem d32 : (⟨(Lib.decDigits 32).toArray⟩ : ByteArray) = ⟨#[51, 50]⟩ := by rw [Lib.decDigits_two (by decide) (by decide)]; rfl
theorem d64 : (⟨(Lib.decDigits 64).toArray⟩ : ByteArray) = ⟨#[54, 52]⟩ := by rw [Lib.decDigits_two (by decide) (by decide)]; rfl
theorem nd_kinds {x : Nd} {of : Int} {dp : Nat} (h : ndE x of dp = 0) : x.k = 1 ∨ x.k = 2 ∨ x.k = 3 ∨ x.k = 4 ∨ x.k = 5 ∨ x.k = 6 ∨ x.k = 7 ∨ x.k = 8 ∨ x.k = 9 := by
  rcases kinds h with ⟨e, _⟩ | ⟨_, _, ⟨e, _⟩ | ⟨e, _⟩ | ⟨e, _⟩ | ⟨e, _⟩⟩ <;> omega
theorem nd_u {x : Nd} {of : Int} {dp : Nat} (h : ndE x of dp = 0) (hk : x.k = 1) : x.n = 1 ∨ x.n = 2 ∨ x.n = 4 ∨ x.n = 8 := by
  obtain ⟨_, h1, _⟩ := nd_ok h
  unfold kindOk at h1
  rw [if_pos hk] at h1
  exact (of_decide_eq_true h1).1
set_option maxRecDepth 100000 in
set_option maxHeartbeats 4000000 in
theorem wordX_any {x : Nd} {of : Int} {dp : Nat} (h : ndE x of dp = 0) (w : World) : Calls Tryd.prog 27 #[ndv x] w fun e w' => e = .returned (.string (wordT x)) ∧ Below w.heap.size w w' := by
  have hk := nd_kinds h
  have hu := nd_u h
  clear h
  obtain ⟨k, n, nm, lb, tg, kd, a⟩ := x
  simp only at hk hu
  have HB : Hid (∀ o, Below w.heap.size w (w.alloc o)) := hide_ (fun o => (Below.refl _ _).alloc (Nat.le_refl _) _)
  unfold ndv
  rcases hk with rfl | rfl | rfl | rfl | rfl | rfl | rfl | rfl | rfl
  · rcases hu rfl with rfl | rfl | rfl | rfl
    · go_enter Tryd.func27, Tryd.ntmps27
      go_wp2_with (go_at_call 28; refine (itoa_c 8 (by decide) ⟨#[56]⟩ d8 _).mono ?_; rintro e w' ⟨rfl, rfl⟩)
      go_ret
      exact ⟨rfl, HB.out _⟩
    · go_enter Tryd.func27, Tryd.ntmps27
      go_wp2_with (go_at_call 28; refine (itoa_c 16 (by decide) ⟨#[49, 54]⟩ d16 _).mono ?_; rintro e w' ⟨rfl, rfl⟩)
      go_ret
      exact ⟨rfl, HB.out _⟩
    · go_enter Tryd.func27, Tryd.ntmps27
      go_wp2_with (go_at_call 28; refine (itoa_c 32 (by decide) ⟨#[51, 50]⟩ d32 _).mono ?_; rintro e w' ⟨rfl, rfl⟩)
      go_ret
      exact ⟨rfl, HB.out _⟩
    · go_enter Tryd.func27, Tryd.ntmps27
      go_wp2_with (go_at_call 28; refine (itoa_c 64 (by decide) ⟨#[54, 52]⟩ d64 _).mono ?_; rintro e w' ⟨rfl, rfl⟩)
      go_ret
      exact ⟨rfl, HB.out _⟩
  all_goals
    clear hu
    go_enter Tryd.func27, Tryd.ntmps27
    go_wp2
    go_ret
    exact ⟨rfl, HB.out _⟩
set_option maxRecDepth 100000 in
set_option maxHeartbeats 4000000 in
theorem head7 (x : Nd) (n : Nat) (hx : x.tag = (n : Int)) (hn : n ≤ 2147483647) (w : World) (ht : Hid (Tab w.heap.size w)) : Calls Tryd.prog 46 #[ndv x, .int .i64 7] w fun e w' => e = .returned (.string ⟨(dec n).toArray⟩) ∧ Below w.heap.size w w' := by
  obtain ⟨k, m, nm, lb, tg, kd, a⟩ := x
  simp only at hx
  subst hx
  have HB : Hid (∀ o, Below w.heap.size w (w.alloc o)) := hide_ (fun o => (Below.refl _ _).alloc (Nat.le_refl _) _)
  unfold ndv
  go_enter Tryd.func46, Tryd.ntmps46
  go_wp2_with fail
  refine (itoa_any n _ hn (ht.out.at (HB.out _))).mono ?_
  rintro e w' ⟨rfl, hB⟩
  have HB2 := hide_ ((HB.out _).trans (hB.mono (HB.out _).size))
  clear hB ht
  go_wp2
  go_ret
  exact ⟨rfl, HB2.out⟩
set_option maxRecDepth 100000 in
set_option maxHeartbeats 4000000 in
theorem head8 (x : Nd) (w : World) : Calls Tryd.prog 46 #[ndv x, .int .i64 8] w fun e w' => e = .returned (.string x.label) ∧ Below w.heap.size w w' := by
  obtain ⟨k, m, nm, lb, tg, kd, a⟩ := x
  have HB : Hid (∀ o, Below w.heap.size w (w.alloc o)) := hide_ (fun o => (Below.refl _ _).alloc (Nat.le_refl _) _)
  unfold ndv
  go_enter Tryd.func46, Tryd.ntmps46
  go_wp2
  go_ret
  exact ⟨rfl, HB.out _⟩
end Go.Proofs.YtbfmoiaedopeiaaDoor

/- The printed form, piece by piece: plain; what addType's call leaves. -/
namespace Go.Proofs.YtbfmoiaedopeiaaDoor
open Go.RowKit
set_option linter.unusedVariables false

/-- The style of the printed form: nothing stands between tokens. -/
def st0 : Sty := ⟨[], [], [], [], [], [], [], []⟩
theorem st0_ok : StyOk st0 := ⟨FillOk.nil, FillOk.nil, FillOk.nil, FillOk.nil, FillOk.nil, FillOk.nil, FillOk.nil, FillOk.nil⟩
theorem wbw (s : ByteArray) : wb (qw s) = s.data.toList := by unfold wb qw; rw [if_neg (by simp)]
theorem wbm (b : UInt8) : wb (qm b) = [b] := by unfold wb qm; rw [if_neg (by simp)]
theorem wbn (n : Int) : wb (qn n) = dec n.toNat := by unfold wb qn; rw [if_pos rfl]
theorem ws_one {st : Sty} {fu d : Nat} {k : Int} {A : List Nd} {P : List (Q × List UInt8)} (h7 : k ≠ 7) (h8 : k ≠ 8) (h : WS st fu d k 1 A P) : ∃ f z A1 PA, f < fu ∧ A = z :: A1 ∧ ndE z k d = 0 ∧ WS st f (d + 1) z.k z.kids.toNat A1 PA ∧ P = opnS st z ++ (PA ++ clsS st z) := by
  cases fu with
  | zero => exact absurd h.1 (by decide)
  | succ f =>
    obtain ⟨x, A1, B, PA, PB, rfl, h2, hA, hB, rfl⟩ := h
    obtain ⟨rfl, rfl⟩ := hB.zero
    refine ⟨f, x, A1, PA, Nat.lt_succ_self _, by simp, h2, hA, ?_⟩
    have e1 : hdS st k x = [] := by unfold hdS; rw [if_neg h7, if_neg h8]
    have e2 : sepS k 0 = [] := by unfold sepS; rw [if_neg (by omega)]
    rw [e1, e2]
    simp
/-- What stands ahead of a part's colon. -/
def hdX (k : Int) (z : Nd) : ByteArray := if k = 7 then ⟨(dec z.tag.toNat).toArray⟩ else z.label
def sp0 (r : Nat) : List UInt8 := if 0 < r then [44] else []
theorem ws_part {fu d r : Nat} {k : Int} {A : List Nd} {P : List (Q × List UInt8)} (hk : k = 7 ∨ k = 8) (h : WS st0 fu d k (r + 1) A P) : ∃ f z A1 B1 PA PB, f < fu ∧ A = z :: (A1 ++ B1) ∧ ndE z k d = 0 ∧ WS st0 f (d + 1) z.k z.kids.toNat A1 PA ∧ WS st0 f d k r B1 PB ∧
    txtP P = (hdX k z).data.toList ++ ([58] ++ (txtP (opnS st0 z ++ (PA ++ clsS st0 z)) ++ (sp0 r ++ txtP PB))) := by
  cases fu with
  | zero => exact absurd h.1 (by omega)
  | succ f =>
    obtain ⟨x, A1, B, PA, PB, rfl, h2, hA, hB, rfl⟩ := h
    refine ⟨f, x, A1, B, PA, PB, Nat.lt_succ_self _, rfl, h2, hA, hB, ?_⟩
    have e1 : txtP (hdS st0 k x) = (hdX k x).data.toList ++ [58] := by
      unfold hdS hdX
      rcases hk with rfl | rfl
      · rw [if_pos rfl, if_pos rfl]; simp [txtP, wbm, wbn, st0]
      · rw [if_neg (by decide), if_pos rfl, if_neg (by decide)]; simp [txtP, wbm, wbw, st0]
    have e2 : txtP (sepS k r) = sp0 r := by
      unfold sepS sp0
      by_cases hr : 0 < r
      · rw [if_pos ⟨hk, hr⟩, if_pos hr]; simp [txtP, wbm]
      · rw [if_neg (fun h => hr h.2), if_neg hr]; rfl
    simp only [txtP_app, e1, e2, List.append_assoc]
def bef (i : Nat) : ByteArray := if i = 0 then ⟨#[123]⟩ else ⟨#[44]⟩
theorem bef_size (i : Nat) : (bef i).size = 1 := by unfold bef; split <;> rfl
/-- The parts of a struct or union, so many of them written. -/
def PtR (k : Int) (d fu n : Nat) (T : List UInt8) (i : Nat) (Rm : List Nd) (Fi : List UInt8) : Prop :=
  (i = n ∧ Fi = T ∧ Rm = []) ∨ (i < n ∧ ∃ f P, f ≤ fu ∧ WS st0 f d k (n - i) Rm P ∧ Fi ++ ((bef i).data.toList ++ txtP P) = T)
theorem PtR.start {k : Int} {d fu n : Nat} {A : List Nd} {P : List (Q × List UInt8)} (F : List UInt8) (hn : 0 < n) (h : WS st0 fu d k n A P) : PtR k d fu n (F ++ ([123] ++ txtP P)) 0 A F := .inr ⟨hn, fu, P, Nat.le_refl _, h, by simp [bef]⟩
theorem PtR.done {k : Int} {d fu n : Nat} {T Fi : List UInt8} {Rm : List Nd} (h : PtR k d fu n T n Rm Fi) : Fi = T ∧ Rm = [] := by
  rcases h with h | h
  · exact h.2
  · exact absurd h.1 (Nat.lt_irrefl _)
theorem PtR.step {k : Int} {d fu n i : Nat} {T Fi : List UInt8} {Rm : List Nd} (hk : k = 7 ∨ k = 8) (h : PtR k d fu n T i Rm Fi) (hi : i < n) : ∃ f z A1 B1 PA, f < fu ∧ Rm = z :: (A1 ++ B1) ∧ ndE z k d = 0 ∧ WS st0 f (d + 1) z.k z.kids.toNat A1 PA ∧
    PtR k d fu n T (i + 1) B1 (Fi ++ ((bef i).data.toList ++ ((hdX k z).data.toList ++ [58])) ++ txtP (opnS st0 z ++ (PA ++ clsS st0 z))) := by
  rcases h with h | ⟨_, f, P, hf, hW, hT⟩
  · omega
  · obtain ⟨r, hr⟩ : ∃ r, n - i = r + 1 := ⟨n - i - 1, by omega⟩
    rw [hr] at hW
    obtain ⟨f', z, A1, B1, PA, PB, h1, h2, h3, h4, h5, h6⟩ := ws_part hk hW
    refine ⟨f', z, A1, B1, PA, by omega, h2, h3, h4, ?_⟩
    rw [h6] at hT
    by_cases hr0 : r = 0
    · subst hr0
      obtain ⟨e1, e2⟩ := h5.zero
      refine .inl ⟨by omega, ?_, e1⟩
      rw [← hT, e2]
      simp [sp0, txtP]
    · refine .inr ⟨by omega, f', PB, by omega, by rw [show n - (i + 1) = r by omega]; exact h5, ?_⟩
      rw [← hT]
      have e : (bef (i + 1)).data.toList = [44] := by unfold bef; rw [if_neg (by omega)]
      rw [e]
      simp [sp0, Nat.pos_of_ne_zero hr0]
/-! ### addType's and addParts' contracts -/
def TyTo (w0 w : World) (gT gL : Nat) (F : List UInt8) (R : List Nd) (cap : Nat) (e : Ending) (w' : World) : Prop :=
  ∃ a' c', e = .returned (.slice a' R.length c') ∧ R.length ≤ c' ∧ c' ≤ cap ∧ Hid (NRow w0 a' R) ∧ Hid (Txw w' w0.heap.size gT gL F) ∧ Hid (Kp w0.heap.size w w')
def TyOk (fu : Nat) : Prop := ∀ (w0 w : World) (gT gL d : Nat) (k : Int) (x : Nd) (A R : List Nd) (PA : List (Q × List UInt8)) (a : Option Addr) (L cap : Nat) (F : List UInt8), ndE x k d = 0 → WS st0 fu (d + 1) x.k x.kids.toNat A PA → (x :: (A ++ R)).length = L → L ≤ cap →
  Hid (NRow w0 a (x :: (A ++ R))) → Hid (Below w0.heap.size w0 w) → Hid (Tab w0.heap.size w0) → Hid (Txw w w0.heap.size gT gL F) →
  Calls Tryd.prog 17 #[.func (.func 16) #[] #[.pointer (some ⟨gL, 0, none⟩), .pointer (some ⟨gT, 0, none⟩)], .slice a L cap] w fun e w' => TyTo w0 w gT gL (F ++ txtP (opnS st0 x ++ (PA ++ clsS st0 x))) R cap e w'
def PtOk (fu : Nat) : Prop := ∀ (w0 w : World) (gT gL d n : Nat) (o : Nd) (A R : List Nd) (PA : List (Q × List UInt8)) (a : Option Addr) (L cap : Nat) (F : List UInt8), (o.k = 7 ∨ o.k = 8) → o.kids = (n : Int) → 0 < n → n ≤ 64 → WS st0 fu d o.k n A PA → (A ++ R).length = L → L ≤ cap →
  Hid (NRow w0 a (A ++ R)) → Hid (Below w0.heap.size w0 w) → Hid (Tab w0.heap.size w0) → Hid (Txw w w0.heap.size gT gL F) →
  Calls Tryd.prog 29 #[.func (.func 16) #[] #[.pointer (some ⟨gL, 0, none⟩), .pointer (some ⟨gT, 0, none⟩)], .slice a L cap, ndv o] w fun e w' => TyTo w0 w gT gL (F ++ ([123] ++ (txtP PA ++ [125]))) R cap e w'
end Go.Proofs.YtbfmoiaedopeiaaDoor

/- addParts, addType. -/
namespace Go.Proofs.YtbfmoiaedopeiaaDoor
open Go.RowKit
set_option linter.unusedVariables false

theorem nd_wsize {x : Nd} {of : Int} {dp : Nat} (h : ndE x of dp = 0) : (wordT x).size ≤ 100 := by
  rcases nd_kinds h with e | e | e | e | e | e | e | e | e
  · rcases nd_u h e with e2 | e2 | e2 | e2 <;> simp [wordT, wordN, e, e2] <;> decide
  · simp [wordT, e]; decide
  · simp [wordT, e]; decide
  · simp [wordT, e]; decide
  · simp [wordT, e]; decide
  · simp [wordT, e]; decide
  · simp [wordT, e]; decide
  · simp [wordT, e]; decide
  · have hn : isName x.name = true := by
      rcases kinds h with ⟨_, _, _, h3⟩ | ⟨h9, _⟩
      · exact h3
      · exact absurd e h9
    have : wordT x = x.name := by simp [wordT, e]
    rw [this]
    obtain ⟨_, h2, _⟩ := of_decide_eq_true hn
    omega
/-! ### The text of a node, kind by kind -/
theorem tx_leaf {x : Nd} (h : x.k = 1 ∨ x.k = 2 ∨ x.k = 3 ∨ x.k = 9) : txtP (opnS st0 x ++ (([] : List (Q × List UInt8)) ++ clsS st0 x)) = (wordT x).data.toList := by
  have e1 : opnS st0 x = [(qw (wordT x), [])] := by unfold opnS; rw [if_neg (by omega), if_neg (by omega)]
  have e2 : clsS st0 x = [] := by unfold clsS; rw [if_neg (by omega), if_neg (by omega), if_neg (by omega)]
  rw [e1, e2]
  simp [txtP, wbw]
theorem tx_list {x : Nd} (h : x.k = 4 ∨ x.k = 5) (P : List (Q × List UInt8)) : txtP (opnS st0 x ++ (P ++ clsS st0 x)) = (wordT x).data.toList ++ ([60] ++ (txtP P ++ ([44] ++ (dec x.n.toNat ++ [62])))) := by
  have e1 : txtP (opnS st0 x) = (wordT x).data.toList ++ [60] := by
    unfold opnS
    rw [if_pos (by omega)]
    by_cases h5 : x.k = 5
    · rw [if_pos h5]; simp [txtP, wbw, wbm, st0]
    · rw [if_neg h5]; simp [txtP, wbw, wbm]
  have e2 : txtP (clsS st0 x) = [44] ++ (dec x.n.toNat ++ [62]) := by
    unfold clsS
    rw [if_pos h]
    simp [txtP, wbm, wbn, st0]
  simp only [txtP_app, e1, e2, List.append_assoc]
theorem tx_opt {x : Nd} (h : x.k = 6) (P : List (Q × List UInt8)) : txtP (opnS st0 x ++ (P ++ clsS st0 x)) = (wordT x).data.toList ++ ([60] ++ (txtP P ++ [62])) := by
  have e1 : txtP (opnS st0 x) = (wordT x).data.toList ++ [60] := by
    unfold opnS
    rw [if_pos (by omega), if_neg (by omega)]
    simp [txtP, wbw, wbm]
  have e2 : txtP (clsS st0 x) = [62] := by
    unfold clsS
    rw [if_neg (by omega), if_pos h]
    simp [txtP, wbm]
  simp only [txtP_app, e1, e2, List.append_assoc]
theorem tx_parts {x : Nd} (h : x.k = 7 ∨ x.k = 8) (P : List (Q × List UInt8)) : txtP (opnS st0 x ++ (P ++ clsS st0 x)) = (wordT x).data.toList ++ ([123] ++ (txtP P ++ [125])) := by
  have e1 : txtP (opnS st0 x) = (wordT x).data.toList ++ [123] := by
    unfold opnS
    rw [if_neg (by omega), if_pos h]
    by_cases h5 : x.k = 8
    · rw [if_pos h5]; simp [txtP, wbw, wbm, st0]
    · rw [if_neg h5]; simp [txtP, wbw, wbm]
  have e2 : txtP (clsS st0 x) = [125] := by
    unfold clsS
    rw [if_neg (by omega), if_neg (by omega), if_pos h]
    simp [txtP, wbm]
  simp only [txtP_app, e1, e2, List.append_assoc]
theorem nd_kids0 {x : Nd} {of : Int} {dp : Nat} (h : ndE x of dp = 0) (hk : x.k = 1 ∨ x.k = 2 ∨ x.k = 3 ∨ x.k = 9) : x.kids = 0 := by
  rcases kinds h with ⟨_, _, e, _⟩ | ⟨_, _, ⟨_, e, _⟩ | ⟨e1, e, _⟩ | ⟨e1, e, _⟩ | ⟨e1, _⟩⟩ <;> omega
theorem nd_kids1 {x : Nd} {of : Int} {dp : Nat} (h : ndE x of dp = 0) (hk : x.k = 4 ∨ x.k = 5 ∨ x.k = 6) : x.kids = 1 := by
  rcases kinds h with ⟨e1, _, e, _⟩ | ⟨_, _, ⟨e1, e, _⟩ | ⟨e1, e, _⟩ | ⟨e1, e, _⟩ | ⟨e1, _⟩⟩ <;> omega
theorem nd_kidsn {x : Nd} {of : Int} {dp : Nat} (h : ndE x of dp = 0) (hk : x.k = 7 ∨ x.k = 8) : ∃ n : Nat, x.kids = (n : Int) ∧ 0 < n ∧ n ≤ 64 := by
  have h2 := (nd_ok h).2.2.2.2.2
  rcases kinds h with ⟨e1, _, e, _⟩ | ⟨_, _, ⟨e1, e, _⟩ | ⟨e1, e, _⟩ | ⟨e1, e, _⟩ | ⟨e1, e, _⟩⟩
  · omega
  · omega
  · omega
  · omega
  · exact ⟨x.kids.toNat, by omega, by omega, by omega⟩
theorem nd_n {x : Nd} {of : Int} {dp : Nat} (h : ndE x of dp = 0) (hk : x.k = 4 ∨ x.k = 5) : ∃ n : Nat, x.n = (n : Int) ∧ n ≤ 2147483647 := by
  have h3 := of_decide_eq_true (nd_num h hk)
  exact ⟨x.n.toNat, by omega, by omega⟩
theorem dec_arr (n : Nat) : (⟨(dec n).toArray⟩ : ByteArray).data.toList = dec n := by simp
theorem dec_size (n : Nat) : (⟨(dec n).toArray⟩ : ByteArray).size ≤ 20 := by rw [Lib.size_eq, dec_arr]; exact dec_len n
set_option maxRecDepth 100000 in
set_option maxHeartbeats 8000000 in
theorem ty_step (fu : Nat) (IH : Hid (∀ f, f < fu → TyOk f)) (HPt : Hid (PtOk fu)) : TyOk fu := by
  intro w0 w gT gL d k x A R PA a L cap F hx hW hL hc HR HB0 HTab HT
  have hws := nd_wsize hx
  have HWd := hide_ (fun w => wordX_any hx w)
  obtain ⟨b, off, rfl, hb, hcell⟩ := (HR.out).open (by simp)
  obtain ⟨off', hsl, hN'⟩ := HR.out.cut hL hc
  have hL1 : (A ++ R).length = L - 1 := by rw [← hL]; simp
  have hLp : 0 < L := by rw [← hL]; simp
  obtain ⟨L1, hL1'⟩ : ∃ m, L - 1 = m := ⟨_, rfl⟩
  obtain ⟨c1, hc1'⟩ : ∃ m, cap - 1 = m := ⟨_, rfl⟩
  have hlc1 : L1 ≤ c1 := by omega
  have hc1c : c1 ≤ cap := by omega
  rw [hL1', hc1'] at hsl
  rw [hL1'] at hL1
  have HL1 := hide_ hL1
  clear hL1 hL1' hc1'
  have g := fun j hj => (HB0.out.cell (p := ⟨b, off + 0 * 7 + j, none⟩) hb).trans (hcell 0 x rfl j hj)
  have n0 := g 0 (by decide); have n1 := g 1 (by decide); have n2 := g 2 (by decide); have n3 := g 3 (by decide); have n4 := g 4 (by decide); have n5 := g 5 (by decide); have n6 := g 6 (by decide)
  simp [ndc] at n0 n1 n2 n3 n4 n5 n6
  have hbw : b < w.heap.size := Nat.lt_of_lt_of_le hb HB0.out.size
  have n0a : ∀ ob, (w.alloc ob).cell? ⟨b, off, none⟩ = _ := fun ob => (cell_al w ob _ _ hbw).trans n0
  have n1a : ∀ ob, (w.alloc ob).cell? ⟨b, off + 1, none⟩ = _ := fun ob => (cell_al w ob _ _ hbw).trans n1
  have n2a : ∀ ob, (w.alloc ob).cell? ⟨b, off + 2, none⟩ = _ := fun ob => (cell_al w ob _ _ hbw).trans n2
  have n3a : ∀ ob, (w.alloc ob).cell? ⟨b, off + 3, none⟩ = _ := fun ob => (cell_al w ob _ _ hbw).trans n3
  have n4a : ∀ ob, (w.alloc ob).cell? ⟨b, off + 4, none⟩ = _ := fun ob => (cell_al w ob _ _ hbw).trans n4
  have n5a : ∀ ob, (w.alloc ob).cell? ⟨b, off + 5, none⟩ = _ := fun ob => (cell_al w ob _ _ hbw).trans n5
  have n6a : ∀ ob, (w.alloc ob).cell? ⟨b, off + 6, none⟩ = _ := fun ob => (cell_al w ob _ _ hbw).trans n6
  have HN' := hide_ hN'
  have Hx := hide_ hx
  have HW := hide_ hW
  clear hcell g hN' hx hW HR hL
  obtain ⟨wA, hwA⟩ : ∃ wA, wA = (w.alloc (.cells #[.int .i64 x.k, .int .i64 x.n, .string x.name, .string x.label, .int .i64 x.tag, .int .i64 x.kids, .int .i64 x.a] 35)).drew := ⟨_, rfl⟩
  have KA : Blk wA w.heap.size 35 [.int .i64 x.k, .int .i64 x.n, .string x.name, .string x.label, .int .i64 x.tag, .int .i64 x.kids, .int .i64 x.a] := by rw [hwA]; exact (Blk.newA w #[.int .i64 x.k, .int .i64 x.n, .string x.name, .string x.label, .int .i64 x.tag, .int .i64 x.kids, .int .i64 x.a] 35).drew
  have hBA : Below w.heap.size w wA := by rw [hwA]; exact ((Below.refl _ _).alloc (Nat.le_refl _) _).drew
  have HTA := hide_ (HT.out.later hBA)
  have HKA := hide_ (Kp.of_below HB0.out.size hBA)
  have HKb := hide_ KA
  clear KA hBA HT
  go_enter Tryd.func17, Tryd.ntmps17
  go_wp2_with fail
  go_region
  rw [← hwA]
  clear hwA n0 n0a n1 n1a n2 n2a n3 n3a n4 n4a n5 n5a n6 n6a
  have u0 := HKb.out.cell 0; have u1 := HKb.out.cell 1; have u2 := HKb.out.cell 2; have u3 := HKb.out.cell 3; have u4 := HKb.out.cell 4; have u5 := HKb.out.cell 5; have u6 := HKb.out.cell 6
  simp at u0 u1 u2 u3 u4 u5 u6
  go_wp2_with fail
  refine (HWd.out wA).mono ?_; rintro e w1 ⟨rfl, hB1⟩
  have HT1 := hide_ (HTA.out.later hB1)
  have HK1 := hide_ (HKA.out.trans (Kp.of_below HTA.out.size hB1))
  have HKb1 := hide_ (HKb.out.later hB1)
  clear u0 u1 u2 u3 u4 u5 u6 hB1 HTA HKA HKb HWd
  go_wp2_with fail
  refine (add1 HT1 (wordT x) (by omega)).mono ?_; rintro e w2 ⟨rfl, HT2, HK2'⟩
  have HKb2 := hide_ (HK2'.out.2 _ _ _ (by decide) (by decide) (by decide) HKb1.out)
  have HK2 := hide_ (HK1.out.trans HK2'.out)
  have HB2 := hide_ (HB0.out.trans HK2.out.1)
  clear HT1 HK1 HKb1 HK2'
  have y0 := HKb2.out.cell 0
  simp at y0
  rcases nd_kinds Hx.out with hk | hk | hk | hk | hk | hk | hk | hk | hk
  · have hk0 := nd_kids0 Hx.out (by omega)
    have hWz := HW.out
    rw [hk0] at hWz
    obtain ⟨hA, hPA⟩ := WS.zero hWz
    rw [hk] at y0
    have HF : Hid (F ++ (wordT x).data.toList = F ++ txtP (opnS st0 x ++ (PA ++ clsS st0 x))) := hide_ (by rw [hPA, tx_leaf (by omega)])
    have HR' : Hid (L1 = R.length) := hide_ (by rw [← HL1.out, hA]; rfl)
    have HNr : Hid (NRow w0 (some ⟨b, off', none⟩) R) := hide_ (by have := HN'.out; rw [hA] at this; exact this)
    clear hA hPA hk0 hWz hk
    go_wp2
    go_ret
    exact ⟨_, c1, by rw [← HR'.out]; rfl, by rw [← HR'.out]; exact hlc1, hc1c, HNr, by rw [← HF.out]; exact HT2, HK2⟩
  · have hk0 := nd_kids0 Hx.out (by omega)
    have hWz := HW.out
    rw [hk0] at hWz
    obtain ⟨hA, hPA⟩ := WS.zero hWz
    rw [hk] at y0
    have HF : Hid (F ++ (wordT x).data.toList = F ++ txtP (opnS st0 x ++ (PA ++ clsS st0 x))) := hide_ (by rw [hPA, tx_leaf (by omega)])
    have HR' : Hid (L1 = R.length) := hide_ (by rw [← HL1.out, hA]; rfl)
    have HNr : Hid (NRow w0 (some ⟨b, off', none⟩) R) := hide_ (by have := HN'.out; rw [hA] at this; exact this)
    clear hA hPA hk0 hWz hk
    go_wp2
    go_ret
    exact ⟨_, c1, by rw [← HR'.out]; rfl, by rw [← HR'.out]; exact hlc1, hc1c, HNr, by rw [← HF.out]; exact HT2, HK2⟩
  · have hk0 := nd_kids0 Hx.out (by omega)
    have hWz := HW.out
    rw [hk0] at hWz
    obtain ⟨hA, hPA⟩ := WS.zero hWz
    rw [hk] at y0
    have HF : Hid (F ++ (wordT x).data.toList = F ++ txtP (opnS st0 x ++ (PA ++ clsS st0 x))) := hide_ (by rw [hPA, tx_leaf (by omega)])
    have HR' : Hid (L1 = R.length) := hide_ (by rw [← HL1.out, hA]; rfl)
    have HNr : Hid (NRow w0 (some ⟨b, off', none⟩) R) := hide_ (by have := HN'.out; rw [hA] at this; exact this)
    clear hA hPA hk0 hWz hk
    go_wp2
    go_ret
    exact ⟨_, c1, by rw [← HR'.out]; rfl, by rw [← HR'.out]; exact hlc1, hc1c, HNr, by rw [← HF.out]; exact HT2, HK2⟩
  · have hk1 := nd_kids1 Hx.out (by omega)
    obtain ⟨m, hm, hm31⟩ := nd_n Hx.out (by omega)
    have hWz := HW.out
    rw [hk1] at hWz
    obtain ⟨f, z, A1, PA1, hf, hA, hz, hW1, hPA⟩ := ws_one (by omega) (by omega) hWz
    rw [hk] at y0
    have HIH := hide_ (fun w3 HB3 HT3 => IH.out f hf w0 w3 gT gL (d + 1) x.k z A1 R PA1 (some ⟨b, off', none⟩) L1 c1 (F ++ (wordT x).data.toList ++ [60]) hz hW1 (by rw [← HL1.out, hA]; rfl) hlc1 (hide_ (by have := HN'.out; rw [hA] at this; exact this)) HB3 HTab HT3)
    have HF : Hid (F ++ (wordT x).data.toList ++ [60] ++ txtP PA ++ ([44] ++ (dec m ++ [62])) = F ++ txtP (opnS st0 x ++ (PA ++ clsS st0 x))) := hide_ (by rw [tx_list (by omega), hm, Int.toNat_natCast]; simp)
    have HPA := hide_ (congrArg txtP hPA)
    have HIt := hide_ (fun (w4 : World) (h4 : Below w0.heap.size w0 w4) => itoa_any m w4 hm31 (HTab.out.at h4))
    have hms := dec_size m
    have Hds := hide_ (dec_arr m)
    generalize (⟨(dec m).toArray⟩ : ByteArray) = ds at *
    have Hm := hide_ hm
    clear hA hPA hz hW1 hWz hk1 hf hm
    go_wp2_with fail
    refine (add1 HT2 ⟨#[60]⟩ (by decide)).mono ?_; rintro e w3 ⟨rfl, HT3, HK3'⟩
    have HKb3 := hide_ (HK3'.out.2 _ _ _ (by decide) (by decide) (by decide) HKb2.out)
    have HK3 := hide_ (HK2.out.trans HK3'.out)
    have HB3 := hide_ (HB2.out.trans HK3'.out.1)
    clear HT2 HK2 HKb2 HK3' HB2 y0
    go_wp2_with fail
    refine (HIH.out w3 HB3 HT3).mono ?_; rintro e w4 ⟨a4, c4, rfl, hl4, hcc4, HN4, HT4, HK4'⟩
    have HKb4 := hide_ (HK4'.out.2 _ _ _ (by decide) (by decide) (by decide) HKb3.out)
    have HK4 := hide_ (HK3.out.trans HK4'.out)
    have HB4 := hide_ (HB3.out.trans HK4'.out.1)
    rw [← HPA.out] at HT4
    clear HT3 HK3 HKb3 HK4' HB3 HIH
    have y1 := HKb4.out.cell 1
    simp at y1
    rw [Hm.out] at y1
    go_wp2_with fail
    refine (HIt.out w4 HB4.out).mono ?_; rintro e w5 ⟨rfl, hB5⟩
    have HT5 := hide_ (HT4.out.later hB5)
    have HK5 := hide_ (HK4.out.trans (Kp.of_below HT4.out.size hB5))
    clear HT4 HK4 hB5 HIt y1
    go_wp2_with fail
    refine (add3 HT5 ⟨#[44]⟩ ds ⟨#[62]⟩ (by decide) (by omega) (by decide)).mono ?_; rintro e w6 ⟨rfl, HT6, HK6'⟩
    have HK6 := hide_ (HK5.out.trans HK6'.out)
    have HT7 : Hid (Txw w6 w0.heap.size gT gL (F ++ txtP (opnS st0 x ++ (PA ++ clsS st0 x)))) := hide_ (by have := HT6.out; rw [Hds.out] at this; rw [← HF.out]; exact this)
    clear HT6 HK6' HK5 HT5
    go_wp2
    go_ret
    exact ⟨a4, c4, rfl, hl4, by omega, HN4, HT7, HK6⟩
  · have hk1 := nd_kids1 Hx.out (by omega)
    obtain ⟨m, hm, hm31⟩ := nd_n Hx.out (by omega)
    have hWz := HW.out
    rw [hk1] at hWz
    obtain ⟨f, z, A1, PA1, hf, hA, hz, hW1, hPA⟩ := ws_one (by omega) (by omega) hWz
    rw [hk] at y0
    have HIH := hide_ (fun w3 HB3 HT3 => IH.out f hf w0 w3 gT gL (d + 1) x.k z A1 R PA1 (some ⟨b, off', none⟩) L1 c1 (F ++ (wordT x).data.toList ++ [60]) hz hW1 (by rw [← HL1.out, hA]; rfl) hlc1 (hide_ (by have := HN'.out; rw [hA] at this; exact this)) HB3 HTab HT3)
    have HF : Hid (F ++ (wordT x).data.toList ++ [60] ++ txtP PA ++ ([44] ++ (dec m ++ [62])) = F ++ txtP (opnS st0 x ++ (PA ++ clsS st0 x))) := hide_ (by rw [tx_list (by omega), hm, Int.toNat_natCast]; simp)
    have HPA := hide_ (congrArg txtP hPA)
    have HIt := hide_ (fun (w4 : World) (h4 : Below w0.heap.size w0 w4) => itoa_any m w4 hm31 (HTab.out.at h4))
    have hms := dec_size m
    have Hds := hide_ (dec_arr m)
    generalize (⟨(dec m).toArray⟩ : ByteArray) = ds at *
    have Hm := hide_ hm
    clear hA hPA hz hW1 hWz hk1 hf hm
    go_wp2_with fail
    refine (add1 HT2 ⟨#[60]⟩ (by decide)).mono ?_; rintro e w3 ⟨rfl, HT3, HK3'⟩
    have HKb3 := hide_ (HK3'.out.2 _ _ _ (by decide) (by decide) (by decide) HKb2.out)
    have HK3 := hide_ (HK2.out.trans HK3'.out)
    have HB3 := hide_ (HB2.out.trans HK3'.out.1)
    clear HT2 HK2 HKb2 HK3' HB2 y0
    go_wp2_with fail
    refine (HIH.out w3 HB3 HT3).mono ?_; rintro e w4 ⟨a4, c4, rfl, hl4, hcc4, HN4, HT4, HK4'⟩
    have HKb4 := hide_ (HK4'.out.2 _ _ _ (by decide) (by decide) (by decide) HKb3.out)
    have HK4 := hide_ (HK3.out.trans HK4'.out)
    have HB4 := hide_ (HB3.out.trans HK4'.out.1)
    rw [← HPA.out] at HT4
    clear HT3 HK3 HKb3 HK4' HB3 HIH
    have y1 := HKb4.out.cell 1
    simp at y1
    rw [Hm.out] at y1
    go_wp2_with fail
    refine (HIt.out w4 HB4.out).mono ?_; rintro e w5 ⟨rfl, hB5⟩
    have HT5 := hide_ (HT4.out.later hB5)
    have HK5 := hide_ (HK4.out.trans (Kp.of_below HT4.out.size hB5))
    clear HT4 HK4 hB5 HIt y1
    go_wp2_with fail
    refine (add3 HT5 ⟨#[44]⟩ ds ⟨#[62]⟩ (by decide) (by omega) (by decide)).mono ?_; rintro e w6 ⟨rfl, HT6, HK6'⟩
    have HK6 := hide_ (HK5.out.trans HK6'.out)
    have HT7 : Hid (Txw w6 w0.heap.size gT gL (F ++ txtP (opnS st0 x ++ (PA ++ clsS st0 x)))) := hide_ (by have := HT6.out; rw [Hds.out] at this; rw [← HF.out]; exact this)
    clear HT6 HK6' HK5 HT5
    go_wp2
    go_ret
    exact ⟨a4, c4, rfl, hl4, by omega, HN4, HT7, HK6⟩
  · have hk1 := nd_kids1 Hx.out (by omega)
    have hWz := HW.out
    rw [hk1] at hWz
    obtain ⟨f, z, A1, PA1, hf, hA, hz, hW1, hPA⟩ := ws_one (by omega) (by omega) hWz
    rw [hk] at y0
    have HIH := hide_ (fun w3 HB3 HT3 => IH.out f hf w0 w3 gT gL (d + 1) x.k z A1 R PA1 (some ⟨b, off', none⟩) L1 c1 (F ++ (wordT x).data.toList ++ [60]) hz hW1 (by rw [← HL1.out, hA]; rfl) hlc1 (hide_ (by have := HN'.out; rw [hA] at this; exact this)) HB3 HTab HT3)
    have HF : Hid (F ++ (wordT x).data.toList ++ [60] ++ txtP PA ++ [62] = F ++ txtP (opnS st0 x ++ (PA ++ clsS st0 x))) := hide_ (by rw [tx_opt (by omega)]; simp)
    have HPA := hide_ (congrArg txtP hPA)
    clear hA hPA hz hW1 hWz hk1 hf
    go_wp2_with fail
    refine (add1 HT2 ⟨#[60]⟩ (by decide)).mono ?_; rintro e w3 ⟨rfl, HT3, HK3'⟩
    have HK3 := hide_ (HK2.out.trans HK3'.out)
    have HB3 := hide_ (HB2.out.trans HK3'.out.1)
    clear HT2 HK2 HKb2 HK3' HB2 y0
    go_wp2_with fail
    refine (HIH.out w3 HB3 HT3).mono ?_; rintro e w4 ⟨a4, c4, rfl, hl4, hcc4, HN4, HT4, HK4'⟩
    have HK4 := hide_ (HK3.out.trans HK4'.out)
    rw [← HPA.out] at HT4
    clear HT3 HK3 HK4' HB3 HIH
    go_wp2_with fail
    refine (add1 HT4 ⟨#[62]⟩ (by decide)).mono ?_; rintro e w6 ⟨rfl, HT6, HK6'⟩
    have HK6 := hide_ (HK4.out.trans HK6'.out)
    have HT7 : Hid (Txw w6 w0.heap.size gT gL (F ++ txtP (opnS st0 x ++ (PA ++ clsS st0 x)))) := hide_ (by rw [← HF.out]; exact HT6.out)
    clear HT6 HK6' HK4 HT4
    go_wp2
    go_ret
    exact ⟨a4, c4, rfl, hl4, by omega, HN4, HT7, HK6⟩
  · obtain ⟨n, hkn, hn0, hn64⟩ := nd_kidsn Hx.out (by omega)
    have hWz := HW.out
    rw [hkn, Int.toNat_natCast] at hWz
    have HPc := hide_ (HPt.out w0 w2 gT gL (d + 1) n x A R PA (some ⟨b, off', none⟩) L1 c1 (F ++ (wordT x).data.toList) (by omega) hkn hn0 hn64 hWz HL1.out hlc1 HN' HB2 HTab HT2)
    have HF : Hid (F ++ (wordT x).data.toList ++ ([123] ++ (txtP PA ++ [125])) = F ++ txtP (opnS st0 x ++ (PA ++ clsS st0 x))) := hide_ (by rw [tx_parts (by omega)]; simp)
    have u0 := HKb2.out.cell 0; have u1 := HKb2.out.cell 1; have u2 := HKb2.out.cell 2; have u3 := HKb2.out.cell 3; have u4 := HKb2.out.cell 4; have u5 := HKb2.out.cell 5; have u6 := HKb2.out.cell 6
    simp at u0 u1 u2 u3 u4 u5 u6
    rw [hk] at u0 y0
    have HPc2 : Hid (Calls Tryd.prog 29 #[.func (.func 16) #[] #[.pointer (some ⟨gL, 0, none⟩), .pointer (some ⟨gT, 0, none⟩)], .slice (some ⟨b, off', none⟩) L1 c1, .agg #[.int .i64 7, .int .i64 x.n, .string x.name, .string x.label, .int .i64 x.tag, .int .i64 x.kids, .int .i64 x.a]] w2 fun e w' => TyTo w0 w2 gT gL (F ++ (wordT x).data.toList ++ ([123] ++ (txtP PA ++ [125]))) R c1 e w') := by
      have h := HPc
      unfold ndv at h
      rw [hk] at h
      exact h
    clear hkn hWz hk HPc
    go_wp2_with fail
    refine HPc2.out.mono ?_; rintro e w3 ⟨a4, c4, rfl, hl4, hcc4, HN4, HT4, HK4'⟩
    have HK4 := hide_ (HK2.out.trans HK4'.out)
    have HT7 : Hid (Txw w3 w0.heap.size gT gL (F ++ txtP (opnS st0 x ++ (PA ++ clsS st0 x)))) := hide_ (by rw [← HF.out]; exact HT4.out)
    clear HT4 HK4' HPc2 u0 u1 u2 u3 u4 u5 u6 y0
    go_wp2
    go_ret
    exact ⟨a4, c4, rfl, hl4, by omega, HN4, HT7, HK4⟩
  · obtain ⟨n, hkn, hn0, hn64⟩ := nd_kidsn Hx.out (by omega)
    have hWz := HW.out
    rw [hkn, Int.toNat_natCast] at hWz
    have HPc := hide_ (HPt.out w0 w2 gT gL (d + 1) n x A R PA (some ⟨b, off', none⟩) L1 c1 (F ++ (wordT x).data.toList) (by omega) hkn hn0 hn64 hWz HL1.out hlc1 HN' HB2 HTab HT2)
    have HF : Hid (F ++ (wordT x).data.toList ++ ([123] ++ (txtP PA ++ [125])) = F ++ txtP (opnS st0 x ++ (PA ++ clsS st0 x))) := hide_ (by rw [tx_parts (by omega)]; simp)
    have u0 := HKb2.out.cell 0; have u1 := HKb2.out.cell 1; have u2 := HKb2.out.cell 2; have u3 := HKb2.out.cell 3; have u4 := HKb2.out.cell 4; have u5 := HKb2.out.cell 5; have u6 := HKb2.out.cell 6
    simp at u0 u1 u2 u3 u4 u5 u6
    rw [hk] at u0 y0
    have HPc2 : Hid (Calls Tryd.prog 29 #[.func (.func 16) #[] #[.pointer (some ⟨gL, 0, none⟩), .pointer (some ⟨gT, 0, none⟩)], .slice (some ⟨b, off', none⟩) L1 c1, .agg #[.int .i64 8, .int .i64 x.n, .string x.name, .string x.label, .int .i64 x.tag, .int .i64 x.kids, .int .i64 x.a]] w2 fun e w' => TyTo w0 w2 gT gL (F ++ (wordT x).data.toList ++ ([123] ++ (txtP PA ++ [125]))) R c1 e w') := by
      have h := HPc
      unfold ndv at h
      rw [hk] at h
      exact h
    clear hkn hWz hk HPc
    go_wp2_with fail
    refine HPc2.out.mono ?_; rintro e w3 ⟨a4, c4, rfl, hl4, hcc4, HN4, HT4, HK4'⟩
    have HK4 := hide_ (HK2.out.trans HK4'.out)
    have HT7 : Hid (Txw w3 w0.heap.size gT gL (F ++ txtP (opnS st0 x ++ (PA ++ clsS st0 x)))) := hide_ (by rw [← HF.out]; exact HT4.out)
    clear HT4 HK4' HPc2 u0 u1 u2 u3 u4 u5 u6 y0
    go_wp2
    go_ret
    exact ⟨a4, c4, rfl, hl4, by omega, HN4, HT7, HK4⟩
  · have hk0 := nd_kids0 Hx.out (by omega)
    have hWz := HW.out
    rw [hk0] at hWz
    obtain ⟨hA, hPA⟩ := WS.zero hWz
    rw [hk] at y0
    have HF : Hid (F ++ (wordT x).data.toList = F ++ txtP (opnS st0 x ++ (PA ++ clsS st0 x))) := hide_ (by rw [hPA, tx_leaf (by omega)])
    have HR' : Hid (L1 = R.length) := hide_ (by rw [← HL1.out, hA]; rfl)
    have HNr : Hid (NRow w0 (some ⟨b, off', none⟩) R) := hide_ (by have := HN'.out; rw [hA] at this; exact this)
    clear hA hPA hk0 hWz hk
    go_wp2
    go_ret
    exact ⟨_, c1, by rw [← HR'.out]; rfl, by rw [← HR'.out]; exact hlc1, hc1c, HNr, by rw [← HF.out]; exact HT2, HK2⟩
end Go.Proofs.YtbfmoiaedopeiaaDoor

/- addParts. -/
namespace Go.Proofs.YtbfmoiaedopeiaaDoor
open Go.RowKit
set_option linter.unusedVariables false

theorem bef_succ (i : Nat) : (⟨#[44]⟩ : ByteArray) = bef (i + 1) := by unfold bef; rw [if_neg (by omega)]
theorem hd_size {k : Int} {z : Nd} {d : Nat} (h : ndE z k d = 0) (hk : k = 7 ∨ k = 8) : (hdX k z).size ≤ 100 := by
  unfold hdX
  rcases hk with rfl | rfl
  · rw [if_pos rfl]; have := dec_size z.tag.toNat; omega
  · rw [if_neg (by decide)]
    have hn : isName z.label = true := (nd_ok h).2.2.2.1
    obtain ⟨_, h2, _⟩ := of_decide_eq_true hn
    omega
theorem head_any {k : Int} {z : Nd} {d : Nat} (h : ndE z k d = 0) (hk : k = 7 ∨ k = 8) (w : World) (ht : Tab w.heap.size w) : Calls Tryd.prog 46 #[ndv z, .int .i64 k] w fun e w' => e = .returned (.string (hdX k z)) ∧ Below w.heap.size w w' := by
  unfold hdX
  rcases hk with rfl | rfl
  · have h3 := of_decide_eq_true (nd_tag h)
    rw [if_pos rfl]
    exact head7 z z.tag.toNat (by omega) (by omega) w (hide_ ht)
  · rw [if_neg (by decide)]
    exact head8 z w
set_option maxRecDepth 100000 in
set_option maxHeartbeats 8000000 in
theorem pt_step (fu : Nat) (IH : Hid (∀ f, f < fu → TyOk f)) : PtOk fu := by
  intro w0 w gT gL d n x A R PA a L cap F hok hkn hn0 hn64 hW hL hc HR HB0 HTab HT
  have HS0 := hide_ (PtR.start F hn0 hW)
  obtain ⟨T, hT⟩ : ∃ T, F ++ ([123] ++ txtP PA) = T := ⟨_, rfl⟩
  have HTT := hide_ hT
  rw [hT] at HS0
  have HL := hide_ hL
  have Hkn := hide_ hkn
  clear hT hW hL hkn
  have Hok := hide_ hok
  clear hok
  obtain ⟨wA, hwA⟩ : ∃ wA, wA = w.alloc (.cells #[.int .i64 x.k, .int .i64 x.n, .string x.name, .string x.label, .int .i64 x.tag, .int .i64 x.kids, .int .i64 x.a] 35) := ⟨_, rfl⟩
  have KA : Blk wA w.heap.size 35 [.int .i64 x.k, .int .i64 x.n, .string x.name, .string x.label, .int .i64 x.tag, .int .i64 x.kids, .int .i64 x.a] := by rw [hwA]; exact Blk.newA w #[.int .i64 x.k, .int .i64 x.n, .string x.name, .string x.label, .int .i64 x.tag, .int .i64 x.kids, .int .i64 x.a] 35
  have hBA : Below w.heap.size w wA := by rw [hwA]; exact (Below.refl _ _).alloc (Nat.le_refl _) _
  have HTA := hide_ (HT.out.later hBA)
  have HKA := hide_ (Kp.of_below HB0.out.size hBA)
  have HKb := hide_ KA
  clear KA hBA HT
  have hkk : ∃ kk : Int, x.k = kk := ⟨_, rfl⟩
  unfold ndv
  go_enter Tryd.func29, Tryd.ntmps29
  go_upto_region 1 with fail
  rw [← hwA]
  clear hwA
  have y5 := HKb.out.cell 5
  simp at y5
  rw [Hkn.out] at y5
  go_wp2_with fail
  clear y5
  go_loopw [1, 7, 10] (fun x1 x7 x10 wr => ∃ (i : Nat) (Rm : List Nd) (a' : Option Addr) (l' c' : Nat) (Fi : List UInt8) (bs : ByteArray), i ≤ n ∧ x10 = .int .i64 (i : Int) ∧ x7 = .string bs ∧ x1 = .slice a' l' c' ∧ l' ≤ c' ∧ c' ≤ cap ∧ Hid ((Rm ++ R).length = l') ∧ Hid (bs = bef i) ∧ Hid (NRow w0 a' (Rm ++ R)) ∧ Hid (PtR x.k d fu n T i Rm Fi) ∧ Hid (Txw wr w0.heap.size gT gL Fi) ∧ Hid (Kp w0.heap.size w wr) ∧ Hid (Blk wr w.heap.size 35 [.int .i64 x.k, .int .i64 x.n, .string x.name, .string x.label, .int .i64 x.tag, .int .i64 x.kids, .int .i64 x.a])) (fun _ _ x10 _ => n - (intOf x10).toNat)
  case atStart => exact ⟨0, A, a, L, cap, F, ⟨#[123]⟩, Nat.zero_le _, rfl, rfl, rfl, hc, Nat.le_refl _, HL, hide_ rfl, HR, HS0, HTA, HKA, HKb⟩
  case round =>
    clear HS0 HTA HKA HKb HR HL
    obtain ⟨i, Rm, a', l', c', Fi, bs, hi, rfl, rfl, rfl, hlc, hcc, HL, Hbs, HR, HS, HT, HK, HKb⟩ := hrel
    generalize wr = wq at *
    have HB1 := hide_ (HB0.out.trans HK.out.1)
    by_cases hlt : i < n
    · have hlt' : (i : Int) < n := by omega
      obtain ⟨f, z, A1, B1, PA1, hf, hRm, hz, hW1, hS2⟩ := HS.out.step Hok.out hlt
      subst hRm
      have hbsz : bs.size = 1 := by rw [Hbs.out]; exact bef_size i
      have hhs := hd_size hz Hok.out
      have HHd := hide_ (fun (w4 : World) (h4 : Below w0.heap.size w0 w4) => head_any hz Hok.out w4 (HTab.out.at h4))
      have HS2 := hide_ hS2
      have Hz := hide_ hz
      have HW1 := hide_ hW1
      have Hf := hide_ hf
      clear hS2 hz hW1 hf HS
      generalize hdX x.k z = hs at *
      have hl0 : 0 < l' := by rw [← HL.out]; simp
      obtain ⟨b, off, rfl, hb, hcell⟩ := HR.out.open (by simp)
      have g := fun j hj => (HB1.out.cell (p := ⟨b, off + 0 * 7 + j, none⟩) hb).trans (hcell 0 z (by simp) j hj)
      have n0 := g 0 (by decide); have n1 := g 1 (by decide); have n2 := g 2 (by decide); have n3 := g 3 (by decide); have n4 := g 4 (by decide); have n5 := g 5 (by decide); have n6 := g 6 (by decide)
      simp [ndc] at n0 n1 n2 n3 n4 n5 n6
      have y0 := HKb.out.cell 0
      simp at y0
      have HHq := hide_ (HHd.out wq HB1.out)
      clear hcell g
      go_upto_region 4 with fail
      have HTd : Hid (Txw wq.drew w0.heap.size gT gL Fi) := hide_ (HT.out.later ((Below.refl _ _).drew))
      have HBd : Hid (Below w0.heap.size w0 wq.drew) := hide_ HB1.out.drew
      have HNx : Hid (NRow w0 (some ⟨b, off, none⟩) (z :: (A1 ++ (B1 ++ R)))) := hide_ (by have := HR.out; simpa using this)
      have HLx : Hid ((z :: (A1 ++ (B1 ++ R))).length = l') := hide_ (by rw [← HL.out]; simp)
      clear HR HL
      go_region_with (first | (go_at_call 46; refine (HHd.out _ HBd.out).mono ?_; rintro e w2 ⟨rfl, hB2⟩; (have HT2 := hide_ (HTd.out.later hB2)); (have HB2 := hide_ hB2); (clear hB2)) | (go_at_call 16; refine (add3 HT2 bs hs ⟨#[58]⟩ (by omega) (by omega) (by decide)).mono ?_; rintro e w3 ⟨rfl, HT3, HK3⟩))
      all_goals
        have HBq2 : Hid (Below wq.heap.size wq w2) := hide_ (((Below.refl _ _).drew).trans HB2.out)
        have HKq2 := hide_ (HK.out.trans (Kp.of_below HT.out.size HBq2.out))
        have HK3' := hide_ (HKq2.out.trans HK3.out)
        have HB3 := hide_ (HB0.out.trans HK3'.out.1)
        have HKb3 := hide_ (HK3.out.2 _ _ _ (by decide) (by decide) (by decide) (HKb.out.later HBq2.out))
        have HIH := hide_ (IH.out f Hf.out w0 w3 gT gL d x.k z A1 (B1 ++ R) PA1 (some ⟨b, off, none⟩) l' c' _ Hz.out HW1.out HLx.out hlc HNx HB3 HTab HT3)
        clear HHd HHq HTd HBd HT2 HB2 HBq2 HKq2 HK3 HT3 HT HK HKb n0 n1 n2 n3 n4 n5 n6 y0 HB1
        go_wp2_with fail
        refine HIH.out.mono ?_; rintro e w4 ⟨a4, c4, rfl, hl4, hcc4, HN4, HT4, HK4⟩
        have HK5 := hide_ (HK3'.out.trans HK4.out)
        have HKb5 := hide_ (HK4.out.2 _ _ _ (by decide) (by decide) (by decide) HKb3.out)
        have HS3 : Hid (PtR x.k d fu n T (i + 1) B1 (Fi ++ (bs.data.toList ++ (hs.data.toList ++ (⟨#[58]⟩ : ByteArray).data.toList)) ++ txtP (opnS st0 z ++ (PA1 ++ clsS st0 z)))) := hide_ (by rw [Hbs.out]; exact HS2.out)
        clear HIH HK3' HKb3 HK4 HS2
        go_wp2
        go_roundw
        case rel => exact ⟨i + 1, B1, a4, _, c4, _, ⟨#[44]⟩, by omega, by go_num, rfl, rfl, by have := hl4; rw [List.length_append] at this; exact this, by omega, hide_ (by rw [List.length_append]), hide_ (bef_succ i), HN4, HS3, HT4, HK5, HKb5⟩
        case measure => simp [intOf]; omega
    · obtain rfl : i = n := by omega
      obtain ⟨hFi, hRm⟩ := HS.out.done
      subst hFi hRm
      have HL2 : Hid (R.length = l') := hide_ (by have := HL.out; simpa using this)
      clear HS
      go_wp2_with fail
      refine (add1 HT ⟨#[125]⟩ (by decide)).mono ?_; rintro e w2 ⟨rfl, HT2, HK2'⟩
      have HK2 := hide_ (HK.out.trans HK2'.out)
      have HT3 : Hid (Txw w2 w0.heap.size gT gL (F ++ ([123] ++ (txtP PA ++ [125])))) := hide_ (by
        have h := HT2.out
        rw [← HTT.out] at h
        have e : F ++ ([123] ++ txtP PA) ++ (⟨#[125]⟩ : ByteArray).data.toList = F ++ ([123] ++ (txtP PA ++ [125])) := by simp
        rw [e] at h
        exact h)
      clear HT HT2 HK HK2'
      go_wp2
      go_ret
      exact ⟨a', c', by rw [HL2.out]; rfl, by rw [HL2.out]; exact hlc, hcc, hide_ (by have := HR.out; simpa using this), HT3, HK2⟩
end Go.Proofs.YtbfmoiaedopeiaaDoor

/- Print: what it answers; its walk. -/
namespace Go.Proofs.YtbfmoiaedopeiaaDoor
open Go.RowKit
set_option linter.unusedVariables false

theorem pt_any (fu : Nat) (IH : ∀ f, f < fu → TyOk f) : PtOk fu := pt_step fu (hide_ IH)
theorem ty_any (fu : Nat) : TyOk fu := Nat.strongRecOn fu (fun f ih => ty_step f (hide_ ih) (hide_ (pt_any f ih)))
/-- The text of a source, or the error. -/
def PrT (D : List Df) (X : ByteArray) (c : Int) : Prop :=
  ((ckP D).2.2 ≠ 0 ∧ X = ⟨#[]⟩ ∧ c = (ckP D).2.2) ∨ ((ckP D).2.2 = 0 ∧ ∃ P, WDS st0 D P ∧ ((65536 < (txtP P).length ∧ X = ⟨#[]⟩ ∧ c = 4) ∨ ((txtP P).length ≤ 65536 ∧ X = ⟨(txtP P).toArray⟩ ∧ c = 0)))
/-- Definitions one by one. -/
def DpR (D : List Df) (T : List UInt8) (i : Nat) (Fi : List UInt8) : Prop := ∃ P, WDS st0 (D.drop i) P ∧ Fi ++ txtP P = T
theorem DpR.done {D : List Df} {T Fi : List UInt8} (h : DpR D T D.length Fi) : Fi = T := by
  obtain ⟨P, h1, h2⟩ := h
  rw [List.drop_length] at h1
  have h1' : P = [] := h1
  subst h1'
  simpa [txtP] using h2
theorem DpR.step {D : List Df} {T Fi : List UInt8} {i : Nat} {d : Df} (h : DpR D T i Fi) (hd : D[i]? = some d) : ∃ f z A1 PA, d.ty = z :: (A1 ++ []) ∧ ndE z 0 0 = 0 ∧ WS st0 f 1 z.k z.kids.toNat A1 PA ∧
    DpR D T (i + 1) (Fi ++ ((⟨#[116, 121, 112, 101, 32]⟩ : ByteArray).data.toList ++ (d.name.data.toList ++ (⟨#[61]⟩ : ByteArray).data.toList)) ++ txtP (opnS st0 z ++ (PA ++ clsS st0 z)) ++ (⟨#[59]⟩ : ByteArray).data.toList) := by
  obtain ⟨P, h1, h2⟩ := h
  obtain ⟨hi, hdi⟩ := List.getElem?_eq_some_iff.1 hd
  rw [List.drop_eq_getElem_cons hi, hdi] at h1
  obtain ⟨PN, PD, hN, hD, rfl⟩ := h1
  obtain ⟨f, z, A1, PA, hf, hA, hz, hW, rfl⟩ := ws_one (by decide) (by decide) hN
  refine ⟨f, z, A1, PA, by rw [hA]; simp, hz, hW, PD, hD, ?_⟩
  rw [← h2]
  simp [txtP, txtP_app, wbw, wbm, st0]
set_option maxRecDepth 100000 in
set_option maxHeartbeats 8000000 in
theorem print_any (a : Option Addr) (c n : Nat) (D : List Df) (w : World) (hn : D.length = n) (hL : Lens D) (r : Hid (DRow w a D)) (ht : Hid (Tab w.heap.size w)) :
    Calls Tryd.prog 8 #[.agg #[.slice a n c]] w fun e w' => ∃ X k, e = .returned (.tuple #[.string X, .int .i64 k]) ∧ Hid (PrT D X k) ∧ Hid (Below w.heap.size w w') := by
  have hn63 : n ≤ 9223372036854775807 := by rw [← hn]; exact hL.1
  obtain ⟨wA, hwA⟩ : ∃ wA, wA = w.alloc (.cells #[.slice a n c] 24) := ⟨_, rfl⟩
  have KA : Blk wA w.heap.size 24 [.slice a n c] := by rw [hwA]; exact Blk.newA w #[.slice a n c] 24
  have hBA : Below w.heap.size w wA := by rw [hwA]; exact (Below.refl _ _).alloc (Nat.le_refl _) _
  have HCk := hide_ (check_any a c D wA (hide_ hL) (hide_ (r.out.later hBA)))
  rw [hn] at HCk
  have HKA := hide_ KA
  have HBA := hide_ hBA
  have Hn := hide_ hn
  have HLn := hide_ hL
  clear KA hBA hn hL
  have hmf : ∀ (fn : Fn) (first cap : Array Value) (w : World), (Instr.makeFunc fn first cap).run Tryd.prog w = .ok (.func fn first cap) w := fun _ _ _ _ => rfl
  go_enter Tryd.func8, Tryd.ntmps8
  go_upto_region 1 with fail
  rw [← hwA]
  clear hwA
  have x0 := HKA.out.cell 0
  simp at x0
  go_wp2_with fail
  refine HCk.out.mono ?_; rintro e w1 ⟨rfl, hB1⟩
  have HB1 := hide_ (HBA.out.trans (hB1.mono HBA.out.size))
  have HK1 := hide_ (HKA.out.later hB1)
  clear hB1 HKA HBA HCk x0
  obtain ⟨E, hE⟩ : ∃ E, (ckP D).2.2 = E := ⟨_, rfl⟩
  have HE := hide_ hE
  rw [hE]
  clear hE
  by_cases hE0 : E = 0
  · subst hE0
    obtain ⟨hD256, hall⟩ := ckP_all HE.out
    obtain ⟨P, hP⟩ := wds_of st0 D hall
    have Hall := hide_ hall
    have HP := hide_ hP
    have HS0 : Hid (DpR D (txtP P) 0 []) := hide_ ⟨P, hP, rfl⟩
    obtain ⟨T, hT⟩ : ∃ T, txtP P = T := ⟨_, rfl⟩
    rw [hT] at HS0
    have HTT := hide_ hT
    clear hT hP hall hD256
    obtain ⟨w2, hw2⟩ : ∃ w2, w2 = (w1.alloc (.cells #[.slice none 0 0] 46)).alloc (.cells #[.bool false] 4) := ⟨_, rfl⟩
    have q1 : Blk w2 w1.heap.size 46 [.slice none 0 0] := by rw [hw2]; exact (Blk.newA w1 #[.slice none 0 0] 46).alloc _
    have q2 : Blk w2 (w1.heap.size + 1) 4 [.bool false] := by rw [hw2]; have h := Blk.newA (w1.alloc (.cells #[.slice none 0 0] 46)) #[.bool false] 4; simpa using h
    have hB2 : Below w1.heap.size w1 w2 := by rw [hw2]; exact below2 w1 _ _
    obtain ⟨gT, hgT⟩ : ∃ gT, w1.heap.size = gT := ⟨_, rfl⟩
    obtain ⟨gL, hgL⟩ : ∃ gL, w1.heap.size + 1 = gL := ⟨_, rfl⟩
    have HT2 : Hid (Txw w2 w.heap.size gT gL []) := hide_ ⟨by rw [← hgT]; exact HB1.out.size, by rw [← hgL]; exact Nat.le_succ_of_le HB1.out.size, _, [], false, by rw [← hgT]; exact q1, BR.nil _ _, by rw [← hgL]; exact q2, by decide, .inl ⟨rfl, rfl⟩⟩
    have HB2 := hide_ (HB1.out.trans (hB2.mono HB1.out.size))
    have HK2 := hide_ (HK1.out.later hB2)
    have HKp2 := hide_ (Kp.of_below (Nat.le_refl _) HB2.out)
    have HgT := hide_ hgT
    have HgL := hide_ hgL
    clear q1 q2 hB2 HB1 HK1 hgT hgL
    go_upto_region 7 with fail
    rw [← hw2]
    rw [HgL.out, HgT.out]
    clear hw2 HgT HgL hmf
    have x0 := HK2.out.cell 0
    simp at x0
    go_wp2_with fail
    clear x0 HK2 HB2
    go_loopw [25] (fun x25 wr => ∃ (i : Nat) (Fi : List UInt8), i ≤ n ∧ x25 = .int .i64 (i : Int) ∧ Hid (DpR D T i Fi) ∧ Hid (Txw wr w.heap.size gT gL Fi) ∧ Hid (Kp w.heap.size w wr)) (fun x25 _ => n - (intOf x25).toNat)
    case atStart => exact ⟨0, [], Nat.zero_le _, rfl, HS0, HT2, HKp2⟩
    case round =>
      clear HS0 HT2 HKp2
      obtain ⟨i, Fi, hi, rfl, HS, HT, HKp⟩ := hrel
      generalize wr = wq at *
      by_cases hlt : i < n
      · have hlt' : (i : Int) < n := by omega
        have hd : D[i]? = some (D[i]'(by rw [Hn.out]; exact hlt)) := List.getElem?_eq_getElem _
        have hmem := List.getElem_mem (l := D) (n := i) (by rw [Hn.out]; exact hlt)
        generalize D[i]'(by rw [Hn.out]; exact hlt) = d at *
        have hnm := (Hall.out d hmem).1
        have hnsz : d.name.size ≤ 100 := by obtain ⟨_, h2, _⟩ := of_decide_eq_true hnm; omega
        obtain ⟨f, z, A1, PA, hty, hz, hW, hS2⟩ := HS.out.step hd
        obtain ⟨b, off, rfl, hb, hcell⟩ := r.out.open (by rw [Hn.out]; omega)
        obtain ⟨va, vc, hcs, hvc, -, hN⟩ := hcell i d hd
        have g := fun j hj => (HKp.out.1.cell (p := ⟨b, off + i * 3 + j, none⟩) hb).trans (hcs j hj)
        have p0 : wq.cell? ⟨b, off + i * 3, none⟩ = some (.string d.name) := g 0 (by decide)
        have p1 : wq.cell? ⟨b, off + i * 3 + 1, none⟩ = some (.int .i64 d.a) := g 1 (by decide)
        have p2 : wq.cell? ⟨b, off + i * 3 + 2, none⟩ = some (.slice va d.ty.length vc) := g 2 (by decide)
        have hTy := fun (w3 : World) F3 HB3 HT3 => ty_any f w w3 gT gL 0 0 z A1 [] PA va d.ty.length vc F3 hz hW (by rw [hty]) hvc (hide_ (by rw [← hty]; exact hN)) HB3 ht HT3
        have HTy := hide_ hTy
        have HS2 := hide_ hS2
        clear hTy hS2 hz hW hty hcs hN g hcell hd hmem hnm HS
        obtain ⟨wz, hwz⟩ : ∃ wz, wz = wq.alloc (.cells #[.string d.name, .int .i64 d.a, .slice va d.ty.length vc] 33) := ⟨_, rfl⟩
        have kz : Blk wz wq.heap.size 33 [.string d.name, .int .i64 d.a, .slice va d.ty.length vc] := by rw [hwz]; exact Blk.newA wq #[.string d.name, .int .i64 d.a, .slice va d.ty.length vc] 33
        have hBz : Below wq.heap.size wq wz := by rw [hwz]; exact (Below.refl _ _).alloc (Nat.le_refl _) _
        have HTz := hide_ (HT.out.later hBz)
        have HKz := hide_ (HKp.out.trans (Kp.of_below HT.out.size hBz))
        have HBz := hide_ kz
        clear kz hBz HT HKp
        go_upto_region 10 with fail
        rw [← hwz]
        clear hwz p0 p1 p2
        have u0 := HBz.out.cell 0
        simp at u0
        go_wp2_with fail
        refine (add3 HTz ⟨#[116, 121, 112, 101, 32]⟩ d.name ⟨#[61]⟩ (by decide) (by omega) (by decide)).mono ?_; rintro e w3 ⟨rfl, HT3, HK3'⟩
        have HK3 := hide_ (HKz.out.trans HK3'.out)
        have HB3 := hide_ (HK3'.out.2 _ _ _ (by decide) (by decide) (by decide) HBz.out)
        clear u0 HTz HKz HK3' HBz
        have u2 := HB3.out.cell 2
        simp at u2
        go_wp2_with fail
        refine (HTy.out w3 _ (hide_ HK3.out.1) HT3).mono ?_; rintro e w4 ⟨a4, c4, rfl, -, -, -, HT4, HK4'⟩
        have HK4 := hide_ (HK3.out.trans HK4'.out)
        clear u2 HK3 HB3 HK4' HTy HT3
        go_wp2_with fail
        refine (add1 HT4 ⟨#[59]⟩ (by decide)).mono ?_; rintro e w5 ⟨rfl, HT5, HK5'⟩
        have HK5 := hide_ (HK4.out.trans HK5'.out)
        clear HT4 HK4 HK5'
        go_wp2
        go_roundw
        case rel => exact ⟨i + 1, _, by omega, by go_num, HS2, HT5, HK5⟩
        case measure => simp [intOf]; omega
      · obtain rfl : i = n := by omega
        have hFT : Fi = T := DpR.done (by rw [Hn.out]; exact HS.out)
        subst hFT
        have HBf := hide_ HKp.out.1
        obtain ⟨h1, h2, vb, bb, lg, k1, k2, k3, hb6, hor⟩ := HT.out
        have c1 := k1.cell 0
        have c3 := k3.cell 0
        simp at c1 c3
        obtain ⟨a2, cap2, hv, hcv⟩ := k2.conv
        subst hv
        clear HS HT HKp k1 k2 k3
        rcases hor with ⟨rfl, hbF⟩ | ⟨rfl, hF⟩
        · have Hpr : Hid (PrT D ⟨bb.toArray⟩ 0) := hide_ (.inr ⟨HE.out, P, HP.out, .inr ⟨by rw [HTT.out, ← hbF]; exact hb6, by rw [HTT.out, ← hbF], rfl⟩⟩)
          clear hbF
          go_wp2
          go_ret2
          exact ⟨_, _, rfl, Hpr, HBf⟩
        · have Hpr : Hid (PrT D ⟨#[]⟩ 4) := hide_ (.inr ⟨HE.out, P, HP.out, .inl ⟨by rw [HTT.out]; exact hF, rfl, rfl⟩⟩)
          clear hF
          go_wp2
          go_ret2
          exact ⟨_, _, rfl, Hpr, HBf⟩
  · have Hpr : Hid (PrT D ⟨#[]⟩ E) := hide_ (.inl ⟨by rw [HE.out]; exact hE0, rfl, HE.out.symm⟩)
    go_wp2
    go_ret2
    exact ⟨_, _, rfl, Hpr, HB1⟩
end Go.Proofs.YtbfmoiaedopeiaaDoor

/- What is parsed, Check takes; plain. -/
namespace Go.Proofs.YtbfmoiaedopeiaaDoor
open Go.RowKit
set_option linter.unusedVariables false

/-- These nodes are c kids of one of kind o, that may hold f deep. -/
def Eats (M : List Nd) (o : Int) (f c : Nat) : Prop := ∀ (L : List (Int × Int)) (left : Int) (rest : List Nd) (i : Nat), L.length + f = 17 → (c : Int) ≤ left → ct (M ++ rest) i (L ++ [(o, left)]) = ct rest (i + M.length) (wo (L ++ [(o, left - c)]))
theorem Eats.app {M1 M2 : List Nd} {o : Int} {f c1 c2 : Nat} (h1 : Eats M1 o f c1) (h2 : Eats M2 o f c2) (hc : 0 < c2) : Eats (M1 ++ M2) o f (c1 + c2) := fun L left rest i hL hl => by
  rw [List.append_assoc, h1 L left _ i hL (by omega), wo_more _ _ (by show left - (c1 : Int) ≠ 0; omega), h2 L _ rest _ hL (by omega), List.length_append, Nat.add_assoc]
  congr 4
  show ((o, left - (c1 : Int) - c2) : Int × Int) = (o, left - ((c1 + c2 : Nat) : Int))
  congr 1
  omega
theorem ct_step {x : Nd} {L : List (Int × Int)} {o left : Int} (rest : List Nd) (i : Nat) (h : ndE x o L.length = 0) : ct (x :: rest) i (L ++ [(o, left)]) = ct rest (i + 1) (wo (L ++ [(o, left - 1), (x.k, x.kids)])) := by
  have e1 : ctE (L ++ [(o, left)]) x = 0 := by unfold ctE; simpa using h
  rw [ct, if_pos e1]
  unfold ctS
  simp
theorem Eats.leaf {x : Nd} {o : Int} {f : Nat} (hk : x.kids = 0) (h : ∀ dp, dp + f = 17 → ndE x o dp = 0) : Eats [x] o f 1 := fun L left rest i hL hl => by
  rw [List.singleton_append, ct_step rest i (h _ hL)]
  have e : L ++ [(o, left - 1), (x.k, x.kids)] = (L ++ [(o, left - 1)]) ++ [(x.k, x.kids)] := by simp
  rw [e, wo_zero _ _ hk]
  rfl
theorem Eats.over {x : Nd} {M : List Nd} {o : Int} {f c : Nat} (hk : x.kids = c) (h0 : 0 < c) (h : ∀ dp, dp + (f + 1) = 17 → ndE x o dp = 0) (hM : Eats M x.k f c) : Eats (x :: M) o (f + 1) 1 := fun L left rest i hL hl => by
  rw [List.cons_append, ct_step _ i (h _ hL)]
  have e : L ++ [(o, left - 1), (x.k, x.kids)] = (L ++ [(o, left - 1)]) ++ [(x.k, x.kids)] := by simp
  rw [e, wo_more _ _ (by show x.kids ≠ 0; omega), hM (L ++ [(o, left - 1)]) x.kids rest _ (by simp; omega) (by omega), wo_zero _ _ (by show x.kids - (c : Int) = 0; omega), List.length_cons]
  congr 1
  omega
section
variable (qs : List Q)
/-- What a part's or an expression's first node may be. -/
def Fresh (x : Nd) (o : Int) : Prop := x.name = ⟨#[]⟩ ∧ x.kids = 0 ∧ nameOk x.label (decide (o = 8)) = true ∧ (x.tag = 0 ∨ (o = 7 ∧ numB x.tag = true))
def NodeC (f : Nat) : Prop := ∀ x i M j o, nodeP qs f x i = .ok (M, j) → Fresh x o → Eats M o f 1
theorem nde_ok {k n : Int} {nm lb : ByteArray} {tg kd a o : Int} {dp : Nat} (hd : dp ≤ 16) (hm : kd ≤ 64) (hk : kindOk k n kd = true) (hn : nameOk nm (decide (k = 9)) = true) (hl : nameOk lb (decide (o = 8)) = true) (ht : tg = 0 ∨ (o = 7 ∧ numB tg = true)) : ndE ⟨k, n, nm, lb, tg, kd, a⟩ o dp = 0 := by
  unfold ndE nodeE
  simp only
  rw [if_neg (by omega), if_neg (by omega), if_neg (by rw [hk, hn, hl]; simp), if_neg]
  rintro ⟨h1, h2⟩
  rcases ht with ht | ⟨h3, h4⟩
  · exact h1 ht
  · rcases h2 with h2 | h2
    · exact h2 h3
    · rw [h4] at h2; cases h2
theorem bnd_inv {α β : Type} {r : PR α} {f : α → PR β} {b : β} (h : bnd r f = .ok b) : ∃ a, r = .ok a ∧ f a = .ok b := by
  cases r with
  | error e => cases h
  | ok a => exact ⟨a, rfl, h⟩
theorem tak_inv {may : Q → Bool} {i j : Nat} (h : tak qs may i = .ok j) : may (qAt qs i) = true ∧ j = i + 1 := by
  unfold tak at h
  by_cases hm : may (qAt qs i) = true
  · rw [if_pos hm] at h
    injection h with h
    exact ⟨hm, h.symm⟩
  · rw [if_neg hm] at h
    cases h
theorem more_c {one : Nat → Nat → PR (List Nd × Nat)} {o : Int} {f : Nat} (h : ∀ c i M j, one c i = .ok (M, j) → c < 64 ∧ Eats M o f 1) :
    ∀ (fu c : Nat) (N : List Nd) (i : Nat) (N' : List Nd) (c' j : Nat), moreP qs one fu c N i = .ok (N', c', j) → c ≤ 64 → Eats N o f c → c' ≤ 64 ∧ c ≤ c' ∧ Eats N' o f c'
  | 0, c, N, i, N', c', j, e, hc, hN => by cases e
  | fu + 1, c, N, i, N', c', j, e, hc, hN => by
    unfold moreP at e
    by_cases ht : isT ⟨#[44]⟩ (qAt qs i) = true
    · rw [if_pos ht] at e
      obtain ⟨⟨M, k⟩, e1, e2⟩ := bnd_inv e
      obtain ⟨h1, h2⟩ := h _ _ _ _ e1
      obtain ⟨a, b, d⟩ := more_c h fu (c + 1) (N ++ M) k N' c' j e2 (by omega) (hN.app h2 (by omega))
      exact ⟨a, by omega, d⟩
    · rw [if_neg ht] at e
      obtain ⟨k, e1, e2⟩ := bnd_inv e
      injection e2 with e2
      injection e2 with e3 e4
      injection e4 with e4 e5
      subst e3 e4
      exact ⟨hc, Nat.le_refl _, hN⟩
theorem parts_c {one : Nat → Nat → PR (List Nd × Nat)} {o : Int} {f : Nat} (h : ∀ c i M j, one c i = .ok (M, j) → c < 64 ∧ Eats M o f 1) {i : Nat} {N : List Nd} {c j : Nat} (e : partsP qs one i = .ok (N, c, j)) : c ≤ 64 ∧ 1 ≤ c ∧ Eats N o f c := by
  unfold partsP at e
  obtain ⟨i1, e1, e⟩ := bnd_inv e
  obtain ⟨⟨M, k⟩, e2, e⟩ := bnd_inv e
  obtain ⟨h1, h2⟩ := h _ _ _ _ e2
  exact more_c qs h _ _ _ _ _ _ _ e (by decide) h2
end
end Go.Proofs.YtbfmoiaedopeiaaDoor

/- What is parsed, Check takes; plain: nodes. -/
namespace Go.Proofs.YtbfmoiaedopeiaaDoor
open Go.RowKit
set_option linter.unusedVariables false

theorem beg_cases (t : ByteArray) : (beg t).1 = 0 ∨ ((beg t).1 = 1 ∧ ((beg t).2 = 1 ∨ (beg t).2 = 2 ∨ (beg t).2 = 4 ∨ (beg t).2 = 8)) ∨ ((beg t).2 = 0 ∧ ((beg t).1 = 2 ∨ (beg t).1 = 3 ∨ (beg t).1 = 4 ∨ (beg t).1 = 5 ∨ (beg t).1 = 6 ∨ (beg t).1 = 7 ∨ (beg t).1 = 8)) ∨ ((beg t).2 = 0 ∧ (beg t).1 = 9 ∧ isName t = true) := by
  unfold beg
  by_cases h0 : t = ⟨#[117, 56]⟩
  · rw [if_pos h0]; exact .inr (.inl ⟨rfl, by decide⟩)
  rw [if_neg h0]
  by_cases h1 : t = ⟨#[117, 49, 54]⟩
  · rw [if_pos h1]; exact .inr (.inl ⟨rfl, by decide⟩)
  rw [if_neg h1]
  by_cases h2 : t = ⟨#[117, 51, 50]⟩
  · rw [if_pos h2]; exact .inr (.inl ⟨rfl, by decide⟩)
  rw [if_neg h2]
  by_cases h3 : t = ⟨#[117, 54, 52]⟩
  · rw [if_pos h3]; exact .inr (.inl ⟨rfl, by decide⟩)
  rw [if_neg h3]
  by_cases h4 : t = ⟨#[98, 111, 111, 108]⟩
  · rw [if_pos h4]; exact .inr (.inr (.inl ⟨rfl, by decide⟩))
  rw [if_neg h4]
  by_cases h5 : t = ⟨#[118, 97, 114, 105, 110, 116]⟩
  · rw [if_pos h5]; exact .inr (.inr (.inl ⟨rfl, by decide⟩))
  rw [if_neg h5]
  by_cases h6 : t = ⟨#[118, 101, 99, 116, 111, 114]⟩
  · rw [if_pos h6]; exact .inr (.inr (.inl ⟨rfl, by decide⟩))
  rw [if_neg h6]
  by_cases h7 : t = ⟨#[108, 105, 115, 116]⟩
  · rw [if_pos h7]; exact .inr (.inr (.inl ⟨rfl, by decide⟩))
  rw [if_neg h7]
  by_cases h8 : t = ⟨#[111, 112, 116, 105, 111, 110]⟩
  · rw [if_pos h8]; exact .inr (.inr (.inl ⟨rfl, by decide⟩))
  rw [if_neg h8]
  by_cases h9 : t = ⟨#[117, 110, 105, 111, 110]⟩
  · rw [if_pos h9]; exact .inr (.inr (.inl ⟨rfl, by decide⟩))
  rw [if_neg h9]
  by_cases h10 : t = ⟨#[115, 116, 114, 117, 99, 116]⟩
  · rw [if_pos h10]; exact .inr (.inr (.inl ⟨rfl, by decide⟩))
  rw [if_neg h10]
  by_cases hn : isName t = true
  · rw [if_pos hn]; exact .inr (.inr (.inr ⟨rfl, rfl, hn⟩))
  · rw [if_neg hn]; exact .inl rfl
section
variable (qs : List Q)
theorem part_inv {sub : Nd → Nat → PR (List Nd × Nat)} {x : Nd} {c i : Nat} {r : List Nd × Nat} (h : partP qs sub x (decide (c < 64)) i = .ok r) : c < 64 ∧ ∃ i1, sub x i1 = .ok r := by
  unfold partP at h
  by_cases hc : c < 64
  · rw [if_pos (by simpa using hc)] at h
    obtain ⟨i1, -, e⟩ := bnd_inv h
    exact ⟨hc, i1, e⟩
  · rw [if_neg (by simpa using hc)] at h
    cases h
theorem arm_c {f : Nat} (HQ : ∀ i, isNum (qAt qs i) = true → numB (qAt qs i).n = true) (ih : NodeC qs f) (c i : Nat) (M : List Nd) (j : Nat) (h : armP qs (nodeP qs f) c i = .ok (M, j)) : c < 64 ∧ Eats M 7 f 1 := by
  unfold armP at h
  obtain ⟨i1, e1, e⟩ := bnd_inv h
  obtain ⟨hn, -⟩ := tak_inv qs e1
  obtain ⟨hc, i2, e2⟩ := part_inv qs e
  exact ⟨hc, ih _ _ _ _ 7 e2 ⟨rfl, rfl, by show nameOk ⟨#[]⟩ false = true; decide, .inr ⟨rfl, HQ i hn⟩⟩⟩
theorem field_c {f : Nat} (ih : NodeC qs f) (c i : Nat) (M : List Nd) (j : Nat) (h : fieldP qs (nodeP qs f) c i = .ok (M, j)) : c < 64 ∧ Eats M 8 f 1 := by
  unfold fieldP at h
  obtain ⟨i1, e1, e⟩ := bnd_inv h
  obtain ⟨hn, -⟩ := tak_inv qs e1
  obtain ⟨hc, i2, e2⟩ := part_inv qs e
  exact ⟨hc, ih _ _ _ _ 8 e2 ⟨rfl, rfl, hn, .inl rfl⟩⟩
theorem ok_pair {α β : Type} {a c : α} {b d : β} (h : (Except.ok (a, b) : PR (α × β)) = .ok (c, d)) : a = c ∧ b = d := by
  injection h with h
  injection h with h1 h2
  exact ⟨h1, h2⟩
theorem node_c (HQ : ∀ i, isNum (qAt qs i) = true → numB (qAt qs i).n = true) : ∀ f, NodeC qs f := by
  intro f
  induction f with
  | zero =>
    intro x i M j o h hx
    unfold nodeP at h
    split at h <;> cases h
  | succ f ih =>
    rintro ⟨xk, xn, xnm, xl, xt, xkd, xa⟩ i M j o h ⟨hnm, hkd, hl, ht⟩
    simp only at hnm hkd hl ht
    subst hnm hkd
    unfold nodeP at h
    have hb := beg_cases (qAt qs i).t
    generalize hB : beg (qAt qs i).t = B at h hb
    obtain ⟨k, n⟩ := B
    simp only at h hb
    have hk0 : ¬ k = 0 := fun e => by rw [if_pos e] at h; cases h
    rw [if_neg hk0] at h
    unfold bodyP at h
    simp only at h
    rcases hb with hb | ⟨rfl, hn⟩ | ⟨rfl, hk⟩ | ⟨rfl, rfl, hnm⟩
    · exact absurd hb hk0
    · simp at h
      obtain ⟨rfl, -⟩ := h
      refine Eats.leaf rfl (fun dp hd => nde_ok (by omega) (by decide) ?_ (by decide) hl ht)
      rcases hn with rfl | rfl | rfl | rfl <;> decide
    · rcases hk with rfl | rfl | rfl | rfl | rfl | rfl | rfl
      · simp at h
        obtain ⟨rfl, -⟩ := h
        exact Eats.leaf rfl (fun dp hd => nde_ok (by omega) (by decide) (by decide) (by decide) hl ht)
      · simp at h
        obtain ⟨rfl, -⟩ := h
        exact Eats.leaf rfl (fun dp hd => nde_ok (by omega) (by decide) (by decide) (by decide) hl ht)
      · rw [if_neg (by decide), if_pos (by decide)] at h
        obtain ⟨⟨M', num, j'⟩, e1, e2⟩ := bnd_inv h
        obtain ⟨rfl, -⟩ := ok_pair e2
        unfold itemsP at e1
        obtain ⟨i1, -, e1⟩ := bnd_inv e1
        obtain ⟨⟨M2, j2⟩, g2, e1⟩ := bnd_inv e1
        obtain ⟨i3, -, e1⟩ := bnd_inv e1
        obtain ⟨i4, g4, e1⟩ := bnd_inv e1
        obtain ⟨i5, -, e1⟩ := bnd_inv e1
        obtain ⟨q1, q2⟩ := ok_pair e1
        obtain ⟨q3, -⟩ := Prod.mk.inj q2
        subst q1 q3
        have hq := HQ _ (tak_inv qs g4).1
        exact Eats.over (c := 1) rfl (by decide) (fun dp hd => nde_ok (by omega) (by decide) (by unfold kindOk; simp [hq]) (by decide) hl ht) (ih _ _ _ _ _ g2 ⟨rfl, rfl, by show nameOk ⟨#[]⟩ false = true; decide, .inl rfl⟩)
      · rw [if_neg (by decide), if_pos (by decide)] at h
        obtain ⟨⟨M', num, j'⟩, e1, e2⟩ := bnd_inv h
        obtain ⟨rfl, -⟩ := ok_pair e2
        unfold itemsP at e1
        obtain ⟨i1, -, e1⟩ := bnd_inv e1
        obtain ⟨⟨M2, j2⟩, g2, e1⟩ := bnd_inv e1
        obtain ⟨i3, -, e1⟩ := bnd_inv e1
        obtain ⟨i4, g4, e1⟩ := bnd_inv e1
        obtain ⟨i5, -, e1⟩ := bnd_inv e1
        obtain ⟨q1, q2⟩ := ok_pair e1
        obtain ⟨q3, -⟩ := Prod.mk.inj q2
        subst q1 q3
        have hq := HQ _ (tak_inv qs g4).1
        exact Eats.over (c := 1) rfl (by decide) (fun dp hd => nde_ok (by omega) (by decide) (by unfold kindOk; simp [hq]) (by decide) hl ht) (ih _ _ _ _ _ g2 ⟨rfl, rfl, by show nameOk ⟨#[]⟩ false = true; decide, .inl rfl⟩)
      · rw [if_neg (by decide), if_neg (by decide), if_pos (by decide)] at h
        obtain ⟨⟨M', j'⟩, e1, e2⟩ := bnd_inv h
        obtain ⟨rfl, -⟩ := ok_pair e2
        unfold optionP at e1
        obtain ⟨i1, -, e1⟩ := bnd_inv e1
        obtain ⟨⟨M2, j2⟩, g2, e1⟩ := bnd_inv e1
        obtain ⟨i3, -, e1⟩ := bnd_inv e1
        obtain ⟨rfl, -⟩ := ok_pair e1
        exact Eats.over (c := 1) rfl (by decide) (fun dp hd => nde_ok (by omega) (by decide) (by decide) (by decide) hl ht) (ih _ _ _ _ _ g2 ⟨rfl, rfl, by show nameOk ⟨#[]⟩ false = true; decide, .inl rfl⟩)
      · rw [if_neg (by decide), if_neg (by decide), if_neg (by decide), if_pos (by decide)] at h
        obtain ⟨⟨M', c, j'⟩, e1, e2⟩ := bnd_inv h
        obtain ⟨rfl, -⟩ := ok_pair e2
        obtain ⟨h1, h2, h3⟩ := parts_c qs (arm_c qs HQ ih) e1
        exact Eats.over (x := ⟨7, 0, ⟨#[]⟩, xl, xt, (c : Int), xa⟩) (c := c) rfl (by omega) (fun dp hd => nde_ok (by omega) (by omega) (by unfold kindOk; simp; omega) (by decide) hl ht) h3
      · rw [if_neg (by decide), if_neg (by decide), if_neg (by decide), if_neg (by decide), if_pos (by decide)] at h
        obtain ⟨⟨M', c, j'⟩, e1, e2⟩ := bnd_inv h
        obtain ⟨rfl, -⟩ := ok_pair e2
        obtain ⟨h1, h2, h3⟩ := parts_c qs (field_c qs ih) e1
        exact Eats.over (x := ⟨8, 0, ⟨#[]⟩, xl, xt, (c : Int), xa⟩) (c := c) rfl (by omega) (fun dp hd => nde_ok (by omega) (by omega) (by unfold kindOk; simp; omega) (by decide) hl ht) h3
    · rw [if_pos (by decide)] at h
      obtain ⟨rfl, -⟩ := ok_pair h
      exact Eats.leaf rfl (fun dp hd => nde_ok (by omega) (by decide) (by decide) hnm hl ht)
theorem def_c (HQ : ∀ i, isNum (qAt qs i) = true → numB (qAt qs i).n = true) {i j : Nat} {d : Df} (h : defP qs i = .ok (d, j)) : isName d.name = true ∧ ct d.ty 0 [(0, 1)] = (0, 0) := by
  unfold defP at h
  obtain ⟨i1, g1, h⟩ := bnd_inv h
  obtain ⟨i2, -, h⟩ := bnd_inv h
  obtain ⟨⟨M, j3⟩, g3, h⟩ := bnd_inv h
  obtain ⟨i4, -, h⟩ := bnd_inv h
  obtain ⟨rfl, -⟩ := ok_pair h
  refine ⟨(tak_inv qs g1).1, ?_⟩
  have h := node_c qs HQ 17 _ _ _ _ 0 g3 ⟨rfl, rfl, by show nameOk ⟨#[]⟩ false = true; decide, .inl rfl⟩ [] 1 [] 0 (by decide) (by decide)
  rw [List.append_nil] at h
  exact h
theorem src_c (HQ : ∀ i, isNum (qAt qs i) = true → numB (qAt qs i).n = true) : ∀ (f : Nat) (D : List Df) (i : Nat) (D' : List Df), srcP qs f D i = .ok D' → (∀ d ∈ D, isName d.name = true ∧ ct d.ty 0 [(0, 1)] = (0, 0)) → f + D.length = 257 → D.length ≤ 256 → D'.length ≤ 256 ∧ ∀ d ∈ D', isName d.name = true ∧ ct d.ty 0 [(0, 1)] = (0, 0)
  | 0, D, i, D', h, _, _, _ => by cases h
  | f + 1, D, i, D', h, hD, hf, hl => by
    unfold srcP at h
    by_cases hi : i < qs.length
    · rw [if_pos hi] at h
      obtain ⟨i1, -, h⟩ := bnd_inv h
      by_cases h0 : f = 0
      · rw [if_pos h0] at h; cases h
      rw [if_neg h0] at h
      obtain ⟨⟨d, j⟩, g, h⟩ := bnd_inv h
      refine src_c HQ f _ _ _ h (fun e he => ?_) (by simp; omega) (by simp; omega)
      rcases List.mem_append.1 he with he | he
      · exact hD e he
      · simp at he
        subst he
        exact def_c qs HQ g
    · rw [if_neg hi] at h
      injection h with h
      subst h
      exact ⟨hl, hD⟩
end
theorem ckL_ok : ∀ (D : List Df) (i : Nat), (∀ d ∈ D, isName d.name = true ∧ ct d.ty 0 [(0, 1)] = (0, 0)) → ckL D i = (0, 0, 0)
  | [], i, h => rfl
  | d :: D, i, h => by
    obtain ⟨h1, h2⟩ := h d (.head _)
    rw [ckL, if_neg (by rw [h1]; decide), h2, if_pos rfl]
    exact ckL_ok D (i + 1) (fun e he => h e (.tail _ he))
end Go.Proofs.YtbfmoiaedopeiaaDoor

/- What is parsed, Check takes; plain: sources. -/
namespace Go.Proofs.YtbfmoiaedopeiaaDoor
open Go.RowKit
set_option linter.unusedVariables false

theorem tkW_num {w : List UInt8} (h : Tw w) (p : Nat) (hk : (tkW w p).k = 2) : numB (tkW w p).n = true := by
  obtain ⟨c, r, rfl, hc, hr, he⟩ := h
  unfold tkW at hk ⊢
  simp only at hk ⊢
  cases hl : letter c with
  | true => rw [hl] at hk; simp at hk
  | false =>
    cases hd : digit c with
    | false => rw [hl, hd] at hk; simp at hk
    | true =>
      unfold erW at he
      simp only at he
      rw [hl, hd] at he
      have h1 : numOk (c :: r) = true := by
        cases h : numOk (c :: r) with
        | true => rfl
        | false => rw [h] at he; simp at he
      have h2 := (of_decide_eq_true h1).2
      simp only [Bool.false_eq_true, if_false, if_true]
      exact decide_eq_true ⟨by omega, by omega⟩
theorem cut_nums (l : List UInt8) (p : Nat) : ∀ t ∈ (cut l p).1, t.k = 2 → numB t.n = true := by
  refine cut_ind (fun l p => ∀ t ∈ (cut l p).1, t.k = 2 → numB t.n = true) ?_ ?_ ?_ ?_ ?_ ?_ l p
  · intro p; simp [cut_nil]
  · intro c r p hb ih; rw [cut_blank r p hb]; exact ih
  · intro c r p hs h2; rw [cut_end p hs h2]; simp
  · intro c r d s p hs h2 h3 ih; rw [cut_rem p hs h2 h3]; exact ih
  · intro c r p hb hs he; rw [cut_bad r p hb hs he]; simp
  · intro w s p hw ho ih
    rw [cut_word hw ho p]
    unfold app
    split
    · intro t ht
      simp only [List.mem_cons] at ht
      rcases ht with rfl | ht
      · exact tkW_num hw p
      · exact ih t ht
    · exact ih
theorem cutT_nums (s : ByteArray) : ∀ t ∈ (cutT s).1, t.k = 2 → numB t.n = true := by
  unfold cutT
  split
  · intro t ht; cases ht
  · exact cut_nums _ _
theorem cutT_hq (s : ByteArray) (i : Nat) (h : isNum (qAt ((cutT s).1.map core) i) = true) : numB (qAt ((cutT s).1.map core) i).n = true := by
  unfold qAt at h ⊢
  by_cases hi : i < ((cutT s).1.map core).length
  · have e : ((cutT s).1.map core).getD i q0 = core ((cutT s).1[i]'(by simpa using hi)) := by simp [List.getD, List.getElem?_map, List.getElem?_eq_getElem (show i < (cutT s).1.length by simpa using hi)]
    rw [e] at h ⊢
    exact cutT_nums s _ (List.getElem_mem _) (of_decide_eq_true h)
  · have e : ((cutT s).1.map core).getD i q0 = q0 := by simp [List.getD, List.getElem?_eq_none (show ((cutT s).1.map core).length ≤ i by omega)]
    rw [e] at h
    cases h
theorem ct_places (ts : List Tk) (L : Nat) : ∀ (N : List Nd) (i : Nat) (S : List (Int × Int)), ct (N.map (ndP ts L)) i S = ct N i S
  | [], i, S => rfl
  | x :: N, i, S => by
    have e1 : ctE S (ndP ts L x) = ctE S x := rfl
    have e2 : ctS S (ndP ts L x) = ctS S x := rfl
    rw [List.map_cons, ct, ct, e1, e2, ct_places ts L N]
theorem prs_check {s : ByteArray} (h : (prsT s).2.1 = 0) : ckP (prsT s).1 = (0, 0, 0) := by
  unfold prsT at h ⊢
  by_cases h0 : (cutT s).2.1 = 0
  · rw [if_pos h0] at h ⊢
    unfold prsP at h ⊢
    cases hs : srcP ((cutT s).1.map core) 257 [] 0 with
    | error e => rw [hs] at h; unfold ckP; simp [ckL]
    | ok D =>
      simp only
      obtain ⟨h1, h2⟩ := src_c _ (cutT_hq s) 257 [] 0 D hs (fun d hd => by cases hd) (by decide) (by decide)
      unfold ckP
      rw [if_neg (by rw [List.length_map]; omega)]
      refine ckL_ok _ _ (fun d hd => ?_)
      obtain ⟨e, he, rfl⟩ := List.mem_map.1 hd
      obtain ⟨g1, g2⟩ := h2 e he
      exact ⟨g1, by show ct (e.ty.map _) 0 _ = _; rw [ct_places]; exact g2⟩
  · rw [if_neg h0] at h
    exact absurd h h0
end Go.Proofs.YtbfmoiaedopeiaaDoor

/- A source's printed text: plain. -/
namespace Go.Proofs.YtbfmoiaedopeiaaDoor
open Go.RowKit
set_option linter.unusedVariables false

theorem ws_det {st : Sty} : ∀ (fu d : Nat) (k : Int) (n : Nat) (A B A' B' : List Nd) (P P' : List (Q × List UInt8)), WS st fu d k n A P → WS st fu d k n A' P' → (A ++ B).map zNd = (A' ++ B').map zNd → A.map zNd = A'.map zNd ∧ B.map zNd = B'.map zNd ∧ P = P'
  | 0, d, k, n, A, B, A', B', P, P', h, h', e => by
    obtain ⟨_, rfl, rfl⟩ := h
    obtain ⟨_, rfl, rfl⟩ := h'
    exact ⟨rfl, by simpa using e, rfl⟩
  | fu + 1, d, k, 0, A, B, A', B', P, P', h, h', e => by
    obtain ⟨rfl, rfl⟩ := h
    obtain ⟨rfl, rfl⟩ := h'
    exact ⟨rfl, by simpa using e, rfl⟩
  | fu + 1, d, k, n + 1, A, B, A', B', P, P', h, h', e => by
    obtain ⟨x, A1, B1, PA, PB, rfl, hx, hA, hB, rfl⟩ := h
    obtain ⟨x', A1', B1', PA', PB', rfl, hx', hA', hB', rfl⟩ := h'
    simp only [List.cons_append, List.map_cons, List.append_assoc] at e
    injection e with e1 e2
    have k1 : x.k = x'.k := by have t := congrArg Nd.k e1; exact t
    have k2 : x.kids = x'.kids := by have t := congrArg Nd.kids e1; exact t
    rw [← k1, ← k2] at hA'
    obtain ⟨q1, q2, q3⟩ := ws_det fu _ _ _ A1 (B1 ++ B) A1' (B1' ++ B') PA PA' hA hA' e2
    obtain ⟨q4, q5, q6⟩ := ws_det fu _ _ _ B1 B B1' B' PB PB' hB hB' q2
    refine ⟨?_, q5, ?_⟩
    · simp only [List.map_cons, List.map_append]
      rw [e1, q1, q4]
    · have h1 : hdS st k x = hdS st k x' := by
        have : hdS st k (zNd x) = hdS st k (zNd x') := by rw [e1]
        exact this
      have h2 : opnS st x = opnS st x' := by
        have : opnS st (zNd x) = opnS st (zNd x') := by rw [e1]
        exact this
      have h3 : clsS st x = clsS st x' := by
        have : clsS st (zNd x) = clsS st (zNd x') := by rw [e1]
        exact this
      rw [h1, h2, h3, q3, q6]
theorem wds_det {st : Sty} : ∀ (D D' : List Df) (P P' : List (Q × List UInt8)), WDS st D P → WDS st D' P' → D.map zDf = D'.map zDf → P = P'
  | [], [], P, P', h, h', _ => by
    have h1 : P = [] := h
    have h2 : P' = [] := h'
    rw [h1, h2]
  | [], d :: D, P, P', h, h', e => by cases e
  | d :: D, [], P, P', h, h', e => by cases e
  | d :: D, d' :: D', P, P', h, h', e => by
    simp only [List.map_cons] at e
    injection e with e1 e2
    obtain ⟨PN, PD, hN, hD, rfl⟩ := h
    obtain ⟨PN', PD', hN', hD', rfl⟩ := h'
    have n1 : d.name = d'.name := by have t := congrArg Df.name e1; exact t
    have n2 : d.ty.map zNd = d'.ty.map zNd := by have t := congrArg Df.ty e1; exact t
    have n3 : d.ty.length = d'.ty.length := by have := congrArg List.length n2; simpa using this
    rw [← n3] at hN'
    obtain ⟨_, _, q⟩ := ws_det _ _ _ _ d.ty [] d'.ty [] PN PN' hN hN' (by simpa using n2)
    rw [n1, q, wds_det D D' PD PD' hD hD' e2]
theorem PrT.err {D : List Df} {X : ByteArray} {c : Int} (h : PrT D X c) (hc : c ≠ 0) : X = ⟨#[]⟩ := by
  rcases h with ⟨_, h, _⟩ | ⟨_, P, _, ⟨_, h, _⟩ | ⟨_, _, h⟩⟩
  · exact h
  · exact h
  · exact absurd h hc
theorem PrT.ok {D : List Df} {X : ByteArray} (h : PrT D X 0) : (ckP D).2.2 = 0 ∧ ∃ P, WDS st0 D P ∧ (txtP P).length ≤ 65536 ∧ X = ⟨(txtP P).toArray⟩ := by
  rcases h with ⟨h1, _, h⟩ | ⟨h1, P, h2, ⟨_, _, h⟩ | ⟨h3, h4, _⟩⟩
  · exact absurd h.symm h1
  · cases h
  · exact ⟨h1, P, h2, h3, h4⟩
/-- Sources that are the same have the same text. -/
theorem PrT.same {D D' : List Df} {X X' : ByteArray} {c' : Int} (h : PrT D X 0) (hk : (ckP D').2.2 = 0) (hz : D'.map zDf = D.map zDf) (h' : PrT D' X' c') : X' = X ∧ c' = 0 := by
  obtain ⟨_, P, h2, h3, h4⟩ := h.ok
  rcases h' with ⟨k1, _⟩ | ⟨_, P', k2, k3⟩
  · exact absurd hk k1
  · have e := wds_det _ _ _ _ k2 h2 hz
    subst e
    rcases k3 with ⟨k3, _⟩ | ⟨_, k4, k5⟩
    · omega
    · exact ⟨by rw [k4, h4], k5⟩
theorem zDf_dfP (ts : List Tk) (L : Nat) (d : Df) : zDf (dfP ts L d) = zDf d := by
  unfold zDf dfP
  simp only [List.map_map]
  congr 1
/-- What is printed is parsed back, to the same source. -/
theorem PrT.back {D : List Df} {X : ByteArray} (h : PrT D X 0) : ∃ D1, prsT X = (D1, 0, 0) ∧ D1.map zDf = D.map zDf ∧ (ckP D1).2.2 = 0 := by
  obtain ⟨h1, P, h2, h3, h4⟩ := h.ok
  obtain ⟨P0, D0, k1, k2, k3, k4⟩ := text_back st0_ok h1
  have e := wds_det _ _ _ _ k1 h2 rfl
  subst e
  have hX : X.data.toList = txtP P0 := by rw [h4]
  have hs : X.size ≤ 65536 := by rw [Lib.size_eq, hX]; exact h3
  obtain ⟨_, k5⟩ := k4 X hX hs
  refine ⟨_, k5, ?_, ?_⟩
  · rw [List.map_map, ← k3]
    exact List.map_congr_left fun d _ => zDf_dfP _ _ d
  · have := prs_check (s := X) (by rw [k5])
    rw [k5] at this
    rw [this]
/-! ### The fixed source -/
def nA : List Nd := [⟨5, 3, ⟨#[]⟩, ⟨#[]⟩, 0, 1, 0⟩, ⟨1, 2, ⟨#[]⟩, ⟨#[]⟩, 0, 0, 0⟩]
def dA : List Df := [⟨⟨#[97]⟩, 0, nA⟩]
def tA : ByteArray := ⟨#[116, 121, 112, 101, 32, 97, 61, 108, 105, 115, 116, 60, 117, 49, 54, 44, 51, 62, 59]⟩
theorem ckA : ckP dA = (0, 0, 0) := by rfl
theorem prA {X : ByteArray} {c : Int} (h : PrT dA X c) : X = tA ∧ c = 0 := by
  rcases h with ⟨k1, _⟩ | ⟨_, P, k2, k3⟩
  · rw [ckA] at k1; exact absurd rfl k1
  · have hw : ∃ P0, WDS st0 dA P0 ∧ txtP P0 = tA.data.toList :=
      ⟨_, ⟨_, [], ⟨⟨5, 3, ⟨#[]⟩, ⟨#[]⟩, 0, 1, 0⟩, [⟨1, 2, ⟨#[]⟩, ⟨#[]⟩, 0, 0, 0⟩], [], _, [], rfl, by rfl, ⟨⟨1, 2, ⟨#[]⟩, ⟨#[]⟩, 0, 0, 0⟩, [], [], [], [], rfl, by rfl, ⟨rfl, rfl, rfl⟩, ⟨rfl, rfl, rfl⟩, rfl⟩, ⟨rfl, rfl⟩, rfl⟩, rfl, rfl⟩, by rfl⟩
    obtain ⟨P0, k4, k5⟩ := hw
    have e := wds_det _ _ _ _ k2 k4 rfl
    subst e
    rw [k5] at k3
    rcases k3 with ⟨k3, _⟩ | ⟨_, k4, k5⟩
    · exact absurd k3 (by decide)
    · exact ⟨k4, k5⟩
end Go.Proofs.YtbfmoiaedopeiaaDoor

/- show.Same. -/
namespace Go.Proofs.YtbfmoiaedopeiaaDoor
open Go.RowKit
set_option linter.unusedVariables false

theorem tl_iff (s t : ByteArray) : s.toList = t.toList ↔ s = t := by
  refine ⟨fun h => ?_, fun h => by rw [h]⟩
  rw [Lib.toList_data, Lib.toList_data] at h
  apply ByteArray.ext
  exact Array.toList_inj.1 h
/-- The answer is whether it is so. -/
def Tells (P : Prop) (w : World) (e : Ending) (w' : World) : Prop := ∃ v : Bool, e = .returned (.bool v) ∧ Hid (v = true ↔ P) ∧ Hid (Below w.heap.size w w')
set_option maxRecDepth 100000 in
set_option maxHeartbeats 4000000 in
theorem sameN_any (x y : Nd) (w : World) : Calls Tryd.prog 31 #[ndv x, ndv y] w fun e w' => Tells (zNd x = zNd y) w e w' := by
  obtain ⟨k, n, nm, lb, tg, kd, a⟩ := x
  obtain ⟨k', n', nm', lb', tg', kd', a'⟩ := y
  have HB : Hid (∀ o o', Below w.heap.size w ((w.alloc o).alloc o')) := hide_ (fun o o' => ((Below.refl _ _).alloc (Nat.le_refl _) _).alloc (by simp) _)
  unfold ndv
  go_enter Tryd.func31, Tryd.ntmps31
  go_wp2
  all_goals go_ret
  all_goals
    first
    | (refine ⟨true, rfl, hide_ ⟨fun _ => ?_, fun _ => rfl⟩, hide_ (HB.out _ _)⟩; simp_all [zNd, tl_iff]; done)
    | (refine ⟨false, rfl, hide_ ⟨fun h => (by cases h), fun h => ?_⟩, hide_ (HB.out _ _)⟩; exfalso; simp_all [zNd, tl_iff]; done)
theorem take_iff {α : Type} {N M : List α} {L : Nat} (h1 : N.length = L) (h2 : M.length = L) : (N.take L = M.take L) ↔ N = M := by
  rw [List.take_of_length_le (by omega), List.take_of_length_le (by omega)]
theorem take_next {α β : Type} {f : α → β} {N M : List α} {k : Nat} {x y : α} (hx : N[k]? = some x) (hy : M[k]? = some y) (h : (N.map f).take k = (M.map f).take k) : (f x = f y) ↔ (N.map f).take (k + 1) = (M.map f).take (k + 1) := by
  have e1 : (N.map f)[k]? = some (f x) := by rw [List.getElem?_map, hx]; rfl
  have e2 : (M.map f)[k]? = some (f y) := by rw [List.getElem?_map, hy]; rfl
  obtain ⟨p1, q1⟩ := List.getElem?_eq_some_iff.1 e1
  obtain ⟨p2, q2⟩ := List.getElem?_eq_some_iff.1 e2
  rw [List.take_succ_eq_append_getElem p1, List.take_succ_eq_append_getElem p2, q1, q2, h]
  constructor
  · intro e; rw [e]
  · intro e
    have := List.append_cancel_left e
    injection this
theorem take_not {α : Type} {A C : List α} {k : Nat} (h : A = C) : A.take k = C.take k := by rw [h]
set_option maxRecDepth 100000 in
set_option maxHeartbeats 8000000 in
theorem eqN_any (a1 a2 : Option Addr) (c1 c2 L1 L2 : Nat) (N M : List Nd) (w : World) (h1 : N.length = L1) (h2 : M.length = L2) (hN : N.length ≤ 9223372036854775807) (hM : M.length ≤ 9223372036854775807) (r1 : Hid (NRow w a1 N)) (r2 : Hid (NRow w a2 M)) :
    Calls Tryd.prog 30 #[.slice a1 L1 c1, .slice a2 L2 c2, .func (.func 31) #[] #[]] w fun e w' => Tells (N.map zNd = M.map zNd) w e w' := by
  have hL1 : L1 ≤ 9223372036854775807 := by rw [← h1]; exact hN
  have hL2 : L2 ≤ 9223372036854775807 := by rw [← h2]; exact hM
  have H1 := hide_ h1
  have H2 := hide_ h2
  have HN0 := hide_ hN
  have HM0 := hide_ hM
  clear h1 h2 hN hM
  have HB0 : Hid (Below w.heap.size w w) := hide_ (Below.refl _ _)
  by_cases hl : L1 = L2
  · subst hl
    go_enter Tryd.func30, Tryd.ntmps30
    go_wp2_with fail
    go_loopw [17] (fun x17 wr => ∃ k : Nat, k ≤ L1 ∧ x17 = .int .i64 (k : Int) ∧ Hid ((N.map zNd).take k = (M.map zNd).take k) ∧ Hid (Below w.heap.size w wr)) (fun x17 _ => L1 - (intOf x17).toNat)
    case atStart => exact ⟨0, Nat.zero_le _, rfl, hide_ (by simp), HB0⟩
    case round =>
      obtain ⟨k, hk, rfl, HE, HB⟩ := hrel
      generalize wr = wq at *
      by_cases hlt : k < L1
      · have hlt' : (k : Int) < L1 := by omega
        obtain ⟨b1, o1, rfl, hb1, hc1⟩ := (r1.out.later HB.out).open (by rw [H1.out]; omega)
        obtain ⟨b2, o2, rfl, hb2, hc2⟩ := (r2.out.later HB.out).open (by rw [H2.out]; omega)
        have hx : N[k]? = some (N[k]'(by rw [H1.out]; exact hlt)) := List.getElem?_eq_getElem _
        have hy : M[k]? = some (M[k]'(by rw [H2.out]; exact hlt)) := List.getElem?_eq_getElem _
        have HmN := hide_ (List.getElem_mem (l := N) (n := k) (by rw [H1.out]; exact hlt))
        have HmM := hide_ (List.getElem_mem (l := M) (n := k) (by rw [H2.out]; exact hlt))
        generalize N[k]'(by rw [H1.out]; exact hlt) = x at *
        generalize M[k]'(by rw [H2.out]; exact hlt) = y at *
        have HX := hide_ (take_next (f := zNd) hx hy HE.out)
        have g1 := hc1 k _ hx
        have g2 := hc2 k _ hy
        have i0 := g1 0 (by decide); have i1 := g1 1 (by decide); have i2 := g1 2 (by decide); have i3 := g1 3 (by decide); have i4 := g1 4 (by decide); have i5 := g1 5 (by decide); have i6 := g1 6 (by decide)
        have j0 := g2 0 (by decide); have j1 := g2 1 (by decide); have j2 := g2 2 (by decide); have j3 := g2 3 (by decide); have j4 := g2 4 (by decide); have j5 := g2 5 (by decide); have j6 := g2 6 (by decide)
        simp [ndc] at i0 j0 i1 j1 i2 j2 i3 j3 i4 j4 i5 j5 i6 j6
        have j0a : ∀ ob, (wq.alloc ob).cell? ⟨b2, o2 + k * 7, none⟩ = _ := fun ob => (cell_al wq ob _ _ hb2).trans j0
        have j1a : ∀ ob, (wq.alloc ob).cell? ⟨b2, o2 + k * 7 + 1, none⟩ = _ := fun ob => (cell_al wq ob _ _ hb2).trans j1
        have j2a : ∀ ob, (wq.alloc ob).cell? ⟨b2, o2 + k * 7 + 2, none⟩ = _ := fun ob => (cell_al wq ob _ _ hb2).trans j2
        have j3a : ∀ ob, (wq.alloc ob).cell? ⟨b2, o2 + k * 7 + 3, none⟩ = _ := fun ob => (cell_al wq ob _ _ hb2).trans j3
        have j4a : ∀ ob, (wq.alloc ob).cell? ⟨b2, o2 + k * 7 + 4, none⟩ = _ := fun ob => (cell_al wq ob _ _ hb2).trans j4
        have j5a : ∀ ob, (wq.alloc ob).cell? ⟨b2, o2 + k * 7 + 5, none⟩ = _ := fun ob => (cell_al wq ob _ _ hb2).trans j5
        have j6a : ∀ ob, (wq.alloc ob).cell? ⟨b2, o2 + k * 7 + 6, none⟩ = _ := fun ob => (cell_al wq ob _ _ hb2).trans j6
        clear g1 g2
        clear hc1 hc2 hx hy HE
        obtain ⟨kz1, kz2⟩ := blk2 wq #[.int .i64 x.k, .int .i64 x.n, .string x.name, .string x.label, .int .i64 x.tag, .int .i64 x.kids, .int .i64 x.a] #[.int .i64 y.k, .int .i64 y.n, .string y.name, .string y.label, .int .i64 y.tag, .int .i64 y.kids, .int .i64 y.a] 35
        have HBz := hide_ (below2 wq (.cells #[.int .i64 x.k, .int .i64 x.n, .string x.name, .string x.label, .int .i64 x.tag, .int .i64 x.kids, .int .i64 x.a] 35) (.cells #[.int .i64 y.k, .int .i64 y.n, .string y.name, .string y.label, .int .i64 y.tag, .int .i64 y.kids, .int .i64 y.a] 35))
        obtain ⟨wz, hwz⟩ : ∃ wz, wz = (wq.alloc (.cells #[.int .i64 x.k, .int .i64 x.n, .string x.name, .string x.label, .int .i64 x.tag, .int .i64 x.kids, .int .i64 x.a] 35)).alloc (.cells #[.int .i64 y.k, .int .i64 y.n, .string y.name, .string y.label, .int .i64 y.tag, .int .i64 y.kids, .int .i64 y.a] 35) := ⟨_, rfl⟩
        rw [← hwz] at HBz kz1 kz2
        have HBt := hide_ (HB.out.trans (HBz.out.mono HB.out.size))
        have KZ1 := hide_ kz1
        have KZ2 := hide_ kz2
        clear kz1 kz2 HBz
        go_upto_region 7 with fail
        rw [← hwz]
        clear hwz i0 i1 i2 i3 i4 i5 i6 j0 j1 j2 j3 j4 j5 j6 j0a j1a j2a j3a j4a j5a j6a
        have u0 := KZ1.out.cell 0; have u1 := KZ1.out.cell 1; have u2 := KZ1.out.cell 2; have u3 := KZ1.out.cell 3; have u4 := KZ1.out.cell 4; have u5 := KZ1.out.cell 5; have u6 := KZ1.out.cell 6
        have v0 := KZ2.out.cell 0; have v1 := KZ2.out.cell 1; have v2 := KZ2.out.cell 2; have v3 := KZ2.out.cell 3; have v4 := KZ2.out.cell 4; have v5 := KZ2.out.cell 5; have v6 := KZ2.out.cell 6
        simp at u0 v0 u1 v1 u2 v2 u3 v3 u4 v4 u5 v5 u6 v6
        go_wp2_with fail
        clear u0 v0 u1 v1 u2 v2 u3 v3 u4 v4 u5 v5 u6 v6
        refine (sameN_any x y wz).mono ?_; rintro e w2 ⟨v, rfl, HV, HB2⟩
        have HB3 := hide_ (HBt.out.trans (HB2.out.mono HBt.out.size))
        clear HB2 HBt HB
        cases v with
        | true =>
          have HE2 := hide_ (HX.out.1 (HV.out.1 rfl))
          clear HX HV
          go_wp2
          go_roundw
          case rel => exact ⟨k + 1, by omega, by go_num, HE2, HB3⟩
          case measure => simp [intOf]; omega
        | false =>
          have HE2 : Hid (¬ N.map zNd = M.map zNd) := hide_ (fun h => by have := HV.out.2 (HX.out.2 (take_not h)); cases this)
          clear HX HV
          go_wp2
          go_ret
          exact ⟨false, rfl, hide_ ⟨fun h => (by cases h), fun h => absurd h HE2.out⟩, HB3⟩
      · obtain rfl : k = L1 := by omega
        have HE2 : Hid (N.map zNd = M.map zNd) := hide_ ((take_iff (by rw [List.length_map]; exact H1.out) (by rw [List.length_map]; exact H2.out)).1 HE.out)
        clear HE
        go_wp2
        go_ret
        exact ⟨true, rfl, hide_ ⟨fun _ => HE2.out, fun _ => rfl⟩, HB⟩
  · have hl' : ¬ ((L1 : Int) = L2) := by omega
    have HE2 : Hid (¬ N.map zNd = M.map zNd) := hide_ (fun h => by have := congrArg List.length h; rw [List.length_map, List.length_map, H1.out, H2.out] at this; exact hl this)
    go_enter Tryd.func30, Tryd.ntmps30
    go_wp2
    go_ret
    exact ⟨false, rfl, hide_ ⟨fun h => (by cases h), fun h => absurd h HE2.out⟩, HB0⟩
theorem zDf_iff (x y : Df) : zDf x = zDf y ↔ x.name = y.name ∧ x.ty.map zNd = y.ty.map zNd := by
  unfold zDf
  constructor
  · intro h
    injection h with h1 h2 h3
    exact ⟨h1, h3⟩
  · intro h
    rw [h.1, h.2]
set_option maxRecDepth 100000 in
set_option maxHeartbeats 8000000 in
theorem sameD_any (x y : Df) (va1 va2 : Option Addr) (vc1 vc2 : Nat) (w : World) (hx : x.ty.length ≤ 9223372036854775807) (hy : y.ty.length ≤ 9223372036854775807) (r1 : Hid (NRow w va1 x.ty)) (r2 : Hid (NRow w va2 y.ty)) :
    Calls Tryd.prog 19 #[.agg #[.string x.name, .int .i64 x.a, .slice va1 x.ty.length vc1], .agg #[.string y.name, .int .i64 y.a, .slice va2 y.ty.length vc2]] w fun e w' => Tells (zDf x = zDf y) w e w' := by
  have HB := hide_ (below2 w (.cells #[.string x.name, .int .i64 x.a, .slice va1 x.ty.length vc1] 33) (.cells #[.string y.name, .int .i64 y.a, .slice va2 y.ty.length vc2] 33))
  have HZ := hide_ (zDf_iff x y)
  by_cases hn : x.name = y.name
  · have hn' : (x.name.toList == y.name.toList) = true := by rw [hn]; simp
    have hn2 : x.name.toList = y.name.toList := by rw [hn]
    have HC := hide_ (eqN_any va1 va2 vc1 vc2 _ _ x.ty y.ty _ rfl rfl hx hy (hide_ (r1.out.later HB.out)) (hide_ (r2.out.later HB.out)))
    have Hn := hide_ hn
    clear hn
    go_enter Tryd.func19, Tryd.ntmps19
    go_wp2_with fail
    refine HC.out.mono ?_; rintro e w2 ⟨v, rfl, HV, HB2⟩
    have HB3 := hide_ (HB.out.trans (HB2.out.mono HB.out.size))
    clear HB HB2 HC
    go_wp2
    go_ret
    exact ⟨v, rfl, hide_ ⟨fun h => HZ.out.2 ⟨Hn.out, HV.out.1 h⟩, fun h => HV.out.2 (HZ.out.1 h).2⟩, HB3⟩
  · have hn' : (x.name.toList == y.name.toList) = false := Bool.eq_false_iff.2 (fun h => hn ((tl_iff _ _).1 (eq_of_beq h)))
    have hn2 : ¬ x.name.toList = y.name.toList := fun h => hn ((tl_iff _ _).1 h)
    have Hn := hide_ hn
    clear hn
    go_enter Tryd.func19, Tryd.ntmps19
    go_wp2
    go_ret
    exact ⟨false, rfl, hide_ ⟨fun h => (by cases h), fun h => absurd (HZ.out.1 h).1 Hn.out⟩, HB⟩
set_option maxRecDepth 100000 in
set_option maxHeartbeats 8000000 in
theorem eqD_any (a1 a2 : Option Addr) (c1 c2 L1 L2 : Nat) (N M : List Df) (w : World) (h1 : N.length = L1) (h2 : M.length = L2) (hN : Lens N) (hM : Lens M) (r1 : Hid (DRow w a1 N)) (r2 : Hid (DRow w a2 M)) :
    Calls Tryd.prog 18 #[.slice a1 L1 c1, .slice a2 L2 c2, .func (.func 19) #[] #[]] w fun e w' => Tells (N.map zDf = M.map zDf) w e w' := by
  have hL1 : L1 ≤ 9223372036854775807 := by rw [← h1]; exact hN.1
  have hL2 : L2 ≤ 9223372036854775807 := by rw [← h2]; exact hM.1
  have H1 := hide_ h1
  have H2 := hide_ h2
  have HN0 := hide_ hN
  have HM0 := hide_ hM
  clear h1 h2 hN hM
  have HB0 : Hid (Below w.heap.size w w) := hide_ (Below.refl _ _)
  by_cases hl : L1 = L2
  · subst hl
    go_enter Tryd.func18, Tryd.ntmps18
    go_wp2_with fail
    go_loopw [17] (fun x17 wr => ∃ k : Nat, k ≤ L1 ∧ x17 = .int .i64 (k : Int) ∧ Hid ((N.map zDf).take k = (M.map zDf).take k) ∧ Hid (Below w.heap.size w wr)) (fun x17 _ => L1 - (intOf x17).toNat)
    case atStart => exact ⟨0, Nat.zero_le _, rfl, hide_ (by simp), HB0⟩
    case round =>
      obtain ⟨k, hk, rfl, HE, HB⟩ := hrel
      generalize wr = wq at *
      by_cases hlt : k < L1
      · have hlt' : (k : Int) < L1 := by omega
        obtain ⟨b1, o1, rfl, hb1, hc1⟩ := (r1.out.later HB.out).open (by rw [H1.out]; omega)
        obtain ⟨b2, o2, rfl, hb2, hc2⟩ := (r2.out.later HB.out).open (by rw [H2.out]; omega)
        have hx : N[k]? = some (N[k]'(by rw [H1.out]; exact hlt)) := List.getElem?_eq_getElem _
        have hy : M[k]? = some (M[k]'(by rw [H2.out]; exact hlt)) := List.getElem?_eq_getElem _
        have HmN := hide_ (List.getElem_mem (l := N) (n := k) (by rw [H1.out]; exact hlt))
        have HmM := hide_ (List.getElem_mem (l := M) (n := k) (by rw [H2.out]; exact hlt))
        generalize N[k]'(by rw [H1.out]; exact hlt) = x at *
        generalize M[k]'(by rw [H2.out]; exact hlt) = y at *
        have HX := hide_ (take_next (f := zDf) hx hy HE.out)
        obtain ⟨va1, vc1, g1, -, -, hN1⟩ := hc1 k _ hx
        obtain ⟨va2, vc2, g2, -, -, hN2⟩ := hc2 k _ hy
        have HNa := hide_ hN1
        have HNb := hide_ hN2
        have i0 := g1 0 (by decide); have i1 := g1 1 (by decide); have i2 := g1 2 (by decide)
        have j0 := g2 0 (by decide); have j1 := g2 1 (by decide); have j2 := g2 2 (by decide)
        simp [dfc] at i0 j0 i1 j1 i2 j2
        have j0a : ∀ ob, (wq.alloc ob).cell? ⟨b2, o2 + k * 3, none⟩ = _ := fun ob => (cell_al wq ob _ _ hb2).trans j0
        have j1a : ∀ ob, (wq.alloc ob).cell? ⟨b2, o2 + k * 3 + 1, none⟩ = _ := fun ob => (cell_al wq ob _ _ hb2).trans j1
        have j2a : ∀ ob, (wq.alloc ob).cell? ⟨b2, o2 + k * 3 + 2, none⟩ = _ := fun ob => (cell_al wq ob _ _ hb2).trans j2
        clear g1 g2 hN1 hN2
        clear hc1 hc2 hx hy HE
        obtain ⟨kz1, kz2⟩ := blk2 wq #[.string x.name, .int .i64 x.a, .slice va1 x.ty.length vc1] #[.string y.name, .int .i64 y.a, .slice va2 y.ty.length vc2] 33
        have HBz := hide_ (below2 wq (.cells #[.string x.name, .int .i64 x.a, .slice va1 x.ty.length vc1] 33) (.cells #[.string y.name, .int .i64 y.a, .slice va2 y.ty.length vc2] 33))
        obtain ⟨wz, hwz⟩ : ∃ wz, wz = (wq.alloc (.cells #[.string x.name, .int .i64 x.a, .slice va1 x.ty.length vc1] 33)).alloc (.cells #[.string y.name, .int .i64 y.a, .slice va2 y.ty.length vc2] 33) := ⟨_, rfl⟩
        rw [← hwz] at HBz kz1 kz2
        have HBt := hide_ (HB.out.trans (HBz.out.mono HB.out.size))
        have KZ1 := hide_ kz1
        have KZ2 := hide_ kz2
        have HBz0 := HBz
        clear kz1 kz2 HBz
        go_upto_region 7 with fail
        rw [← hwz]
        clear hwz i0 i1 i2 j0 j1 j2 j0a j1a j2a
        have u0 := KZ1.out.cell 0; have u1 := KZ1.out.cell 1; have u2 := KZ1.out.cell 2
        have v0 := KZ2.out.cell 0; have v1 := KZ2.out.cell 1; have v2 := KZ2.out.cell 2
        simp at u0 v0 u1 v1 u2 v2
        go_wp2_with fail
        clear u0 v0 u1 v1 u2 v2
        refine (sameD_any x y va1 va2 vc1 vc2 wz (HN0.out.2 _ HmN.out) (HM0.out.2 _ HmM.out) (hide_ (HNa.out.later HBz0.out)) (hide_ (HNb.out.later HBz0.out))).mono ?_; rintro e w2 ⟨v, rfl, HV, HB2⟩
        have HB3 := hide_ (HBt.out.trans (HB2.out.mono HBt.out.size))
        clear HB2 HBt HB
        cases v with
        | true =>
          have HE2 := hide_ (HX.out.1 (HV.out.1 rfl))
          clear HX HV
          go_wp2
          go_roundw
          case rel => exact ⟨k + 1, by omega, by go_num, HE2, HB3⟩
          case measure => simp [intOf]; omega
        | false =>
          have HE2 : Hid (¬ N.map zDf = M.map zDf) := hide_ (fun h => by have := HV.out.2 (HX.out.2 (take_not h)); cases this)
          clear HX HV
          go_wp2
          go_ret
          exact ⟨false, rfl, hide_ ⟨fun h => (by cases h), fun h => absurd h HE2.out⟩, HB3⟩
      · obtain rfl : k = L1 := by omega
        have HE2 : Hid (N.map zDf = M.map zDf) := hide_ ((take_iff (by rw [List.length_map]; exact H1.out) (by rw [List.length_map]; exact H2.out)).1 HE.out)
        clear HE
        go_wp2
        go_ret
        exact ⟨true, rfl, hide_ ⟨fun _ => HE2.out, fun _ => rfl⟩, HB⟩
  · have hl' : ¬ ((L1 : Int) = L2) := by omega
    have HE2 : Hid (¬ N.map zDf = M.map zDf) := hide_ (fun h => by have := congrArg List.length h; rw [List.length_map, List.length_map, H1.out, H2.out] at this; exact hl this)
    go_enter Tryd.func18, Tryd.ntmps18
    go_wp2
    go_ret
    exact ⟨false, rfl, hide_ ⟨fun h => (by cases h), fun h => absurd h HE2.out⟩, HB0⟩
set_option maxRecDepth 100000 in
set_option maxHeartbeats 8000000 in
theorem showSame_any (a1 a2 : Option Addr) (c1 c2 : Nat) (D E : List Df) (w : World) (hD : Lens D) (hE : Lens E) (r1 : Hid (DRow w a1 D)) (r2 : Hid (DRow w a2 E)) :
    Calls Tryd.prog 10 #[.agg #[.slice a1 D.length c1], .agg #[.slice a2 E.length c2]] w fun e w' => Tells (D.map zDf = E.map zDf) w e w' := by
  have HB := hide_ (below2 w (.cells #[.slice a1 D.length c1] 24) (.cells #[.slice a2 E.length c2] 24))
  have HC := hide_ (eqD_any a1 a2 c1 c2 _ _ D E _ rfl rfl hD hE (hide_ (r1.out.later HB.out)) (hide_ (r2.out.later HB.out)))
  go_enter Tryd.func10, Tryd.ntmps10
  go_wp2_with fail
  refine HC.out.mono ?_; rintro e w2 ⟨v, rfl, HV, HB2⟩
  have HB3 := hide_ (HB.out.trans (HB2.out.mono HB.out.size))
  clear HB HB2 HC
  go_wp2
  go_ret
  exact ⟨v, rfl, HV, HB3⟩
end Go.Proofs.YtbfmoiaedopeiaaDoor

/- awake. -/
namespace Go.Proofs.YtbfmoiaedopeiaaDoor
open Go.RowKit
set_option linter.unusedVariables false

theorem bldA1 (w : World) : (Instr.build 35 #[(0, .int .i64 5), (1, .int .i64 3), (5, .int .i64 1)]).run Tryd.prog w = .ok (.agg #[.int .i64 5, .int .i64 3, .string ⟨#[]⟩, .string ⟨#[]⟩, .int .i64 0, .int .i64 1, .int .i64 0]) w := by kernel_rfl
theorem bldA2 (w : World) : (Instr.build 35 #[(0, .int .i64 1), (1, .int .i64 2)]).run Tryd.prog w = .ok (.agg #[.int .i64 1, .int .i64 2, .string ⟨#[]⟩, .string ⟨#[]⟩, .int .i64 0, .int .i64 0, .int .i64 0]) w := by kernel_rfl
theorem bldA3 (g : Nat) (w : World) : (Instr.build 33 #[(0, .string ⟨#[97]⟩), (2, .slice (some ⟨g, 0, none⟩) 2 2)]).run Tryd.prog w = .ok (.agg #[.string ⟨#[97]⟩, .int .i64 0, .slice (some ⟨g, 0, none⟩) 2 2]) w := by kernel_rfl
theorem bldA4 (g : Nat) (w : World) : (Instr.build 24 #[(0, .slice (some ⟨g, 0, none⟩) 1 1)]).run Tryd.prog w = .ok (.agg #[.slice (some ⟨g, 0, none⟩) 1 1]) w := by kernel_rfl
theorem bldA5 (w : World) : (Instr.build 24 #[]).run Tryd.prog w = .ok (.agg #[.slice none 0 0]) w := by kernel_rfl
theorem drow_one {w : World} {g1 g2 vc n : Nat} {nm : ByteArray} {a : Int} {N : List Nd} (hn : N.length = n) (h2 : Blk w g2 33 [.string nm, .int .i64 a, .slice (some ⟨g1, 0, none⟩) n vc]) (h1 : Blk w g1 35 (cellsN N)) (hv : n ≤ vc) : DRow w (some ⟨g2, 0, none⟩) [⟨nm, a, N⟩] := by
  subst hn
  refine .inr ⟨g2, 0, rfl, h2.lt, fun i d hd => ?_⟩
  have hi := (List.getElem?_eq_some_iff.1 hd).1
  obtain rfl : i = 0 := by simp at hi; omega
  simp at hd
  subst hd
  refine ⟨some ⟨g1, 0, none⟩, vc, fun j hj => ?_, hv, (fun h => by cases h), .inr ⟨g1, 0, rfl, h1.lt, fun i x hx j hj => ?_⟩⟩
  · rw [h2.cell]
    have : 0 + 0 * 3 + j = j := by omega
    rw [this]
    rfl
  · rw [h1.cell, ← cellsN_at N i j x hx hj]
    congr 1
    omega
set_option maxRecDepth 100000 in
set_option maxHeartbeats 8000000 in
theorem awake_any (w : World) (ht : Hid (Tab w.heap.size w)) : Calls Tryd.prog 7 #[] w fun e w' => e = .returned (.bool true) ∧ Below w.heap.size w w' := by
  have b1 := bldA1
  have b2 := bldA2
  have b3 := bldA3
  have b4 := bldA4
  have b5 := bldA5
  obtain ⟨wA, hwA⟩ : ∃ wA, wA = ((w.alloc (.cells #[.int .i64 5, .int .i64 3, .string ⟨#[]⟩, .string ⟨#[]⟩, .int .i64 0, .int .i64 1, .int .i64 0, .int .i64 1, .int .i64 2, .string ⟨#[]⟩, .string ⟨#[]⟩, .int .i64 0, .int .i64 0, .int .i64 0] 35)).alloc (.cells #[.string ⟨#[97]⟩, .int .i64 0, .slice (some ⟨w.heap.size, 0, none⟩) 2 2] 33)).alloc (.cells #[.slice (some ⟨w.heap.size + 1, 0, none⟩) 1 1] 24) := ⟨_, rfl⟩
  have k1 : Blk wA w.heap.size 35 (cellsN nA) := by rw [hwA]; exact ((Blk.newA w _ 35).alloc _).alloc _
  have k2 : Blk wA (w.heap.size + 1) 33 [.string ⟨#[97]⟩, .int .i64 0, .slice (some ⟨w.heap.size, 0, none⟩) 2 2] := by
    rw [hwA]
    have h := (Blk.newA (w.alloc (.cells #[.int .i64 5, .int .i64 3, .string ⟨#[]⟩, .string ⟨#[]⟩, .int .i64 0, .int .i64 1, .int .i64 0, .int .i64 1, .int .i64 2, .string ⟨#[]⟩, .string ⟨#[]⟩, .int .i64 0, .int .i64 0, .int .i64 0] 35)) #[.string ⟨#[97]⟩, .int .i64 0, .slice (some ⟨w.heap.size, 0, none⟩) 2 2] 33).alloc (.cells #[.slice (some ⟨w.heap.size + 1, 0, none⟩) 1 1] 24)
    simpa using h
  have k3 : Blk wA (w.heap.size + 2) 24 [.slice (some ⟨w.heap.size + 1, 0, none⟩) 1 1] := by
    rw [hwA]
    have h := Blk.newA ((w.alloc (.cells #[.int .i64 5, .int .i64 3, .string ⟨#[]⟩, .string ⟨#[]⟩, .int .i64 0, .int .i64 1, .int .i64 0, .int .i64 1, .int .i64 2, .string ⟨#[]⟩, .string ⟨#[]⟩, .int .i64 0, .int .i64 0, .int .i64 0] 35)).alloc (.cells #[.string ⟨#[97]⟩, .int .i64 0, .slice (some ⟨w.heap.size, 0, none⟩) 2 2] 33)) #[.slice (some ⟨w.heap.size + 1, 0, none⟩) 1 1] 24
    simpa using h
  have hBA : Below w.heap.size w wA := by rw [hwA]; exact (((Below.refl _ _).alloc (Nat.le_refl _) _).alloc (by simp) _).alloc (by simp; omega) _
  have HDA := hide_ (drow_one (n := 2) rfl k2 k1 (Nat.le_refl _))
  have HL : Hid (Lens dA) := hide_ ⟨by decide, fun d hd => by obtain rfl := List.mem_singleton.1 hd; decide⟩
  have HL0 : Hid (Lens []) := hide_ ⟨by decide, fun d hd => by cases hd⟩
  have HTab := hide_ (ht.out.at hBA)
  have HK3 := hide_ k3
  have HBA := hide_ hBA
  clear k1 k2 k3 hBA ht
  have HPr := hide_ (print_any (some ⟨w.heap.size + 1, 0, none⟩) 1 1 dA wA rfl HL.out HDA HTab)
  go_enter Tryd.func7, Tryd.ntmps7
  go_upto_region 2 with fail
  rw [← hwA]
  clear hwA b1 b2 b3 b4
  have x0 := HK3.out.cell 0
  simp at x0
  go_wp2_with fail
  refine HPr.out.mono ?_; rintro e w1 ⟨X, k, rfl, HX, HB1⟩
  obtain ⟨rfl, rfl⟩ := prA HX.out
  have HK4 := hide_ (HK3.out.later HB1.out)
  have HD4 := hide_ (HDA.out.later HB1.out)
  have HBw := hide_ (HBA.out.trans (HB1.out.mono HBA.out.size))
  clear HX HK3 HDA HPr x0 HB1 HBA HTab
  have x0 := HK4.out.cell 0
  simp at x0
  unfold tA
  go_wp2_with fail
  refine (showSame_any (some ⟨w.heap.size + 1, 0, none⟩) (some ⟨w.heap.size + 1, 0, none⟩) 1 1 dA dA w1 HL.out HL.out HD4 HD4).mono ?_; rintro e w2 ⟨v, rfl, HV, HB2⟩
  obtain rfl : v = true := HV.out.2 rfl
  have HK5 := hide_ (HK4.out.later HB2.out)
  have HD5 := hide_ (HD4.out.later HB2.out)
  have HB3 := hide_ (HBw.out.trans (HB2.out.mono HBw.out.size))
  clear HV HK4 HD4 HB2 HBw x0
  have x0 := HK5.out.cell 0
  simp at x0
  go_wp2_with fail
  refine (showSame_any (some ⟨w.heap.size + 1, 0, none⟩) none 1 0 dA [] w2 HL.out HL0.out HD5 (hide_ (.inl rfl))).mono ?_; rintro e w3 ⟨v, rfl, HV, HB4⟩
  obtain rfl : v = false := Bool.eq_false_iff.2 (fun h => by have := HV.out.1 h; cases this)
  have HB5 := hide_ (HB3.out.trans (HB4.out.mono HB3.out.size))
  clear HV HK5 HD5 HB4 HB3 x0
  go_wp2
  go_ret
  exact ⟨rfl, HB5.out⟩
end Go.Proofs.YtbfmoiaedopeiaaDoor

/- ShowBack. -/
namespace Go.Proofs.YtbfmoiaedopeiaaDoor
open Go.RowKit
set_option linter.unusedVariables false

set_option maxRecDepth 100000 in
set_option maxHeartbeats 8000000 in
theorem showBack_any (a : Option Addr) (c n : Nat) (D : List Df) (w : World) (hn : D.length = n) (hL : Lens D) (r : Hid (DRow w a D)) (ht : Hid (Tab w.heap.size w)) :
    Calls Tryd.prog 5 #[.agg #[.slice a n c]] w fun e w' => e = .returned (.bool true) ∧ Below w.heap.size w w' := by
  obtain ⟨wA, hwA⟩ : ∃ wA, wA = w.alloc (.cells #[.slice a n c] 24) := ⟨_, rfl⟩
  have KA : Blk wA w.heap.size 24 [.slice a n c] := by rw [hwA]; exact Blk.newA w #[.slice a n c] 24
  have hBA : Below w.heap.size w wA := by rw [hwA]; exact (Below.refl _ _).alloc (Nat.le_refl _) _
  have HKA := hide_ KA
  have HBA := hide_ hBA
  have HAw := hide_ (awake_any wA (hide_ (ht.out.at hBA)))
  have HL := hide_ hL
  have Hn := hide_ hn
  clear KA hBA hL hn
  go_enter Tryd.func5, Tryd.ntmps5
  go_upto_region 1 with fail
  rw [← hwA]
  clear hwA
  go_wp2_with fail
  refine HAw.out.mono ?_; rintro e w1 ⟨rfl, hB1⟩
  have HB1 := hide_ (HBA.out.trans (hB1.mono HBA.out.size))
  have HK1 := hide_ (HKA.out.later hB1)
  clear hB1 HKA HBA HAw
  have x0 := HK1.out.cell 0
  simp at x0
  have HPr := hide_ (print_any a c n D w1 Hn.out HL.out (hide_ (r.out.later HB1.out)) (hide_ (ht.out.at HB1.out)))
  go_wp2_with fail
  refine HPr.out.mono ?_; rintro e w2 ⟨X, k, rfl, HX, HB2'⟩
  have HB2 := hide_ (HB1.out.trans (HB2'.out.mono HB1.out.size))
  have HK2 := hide_ (HK1.out.later HB2'.out)
  clear HB2' HK1 HPr x0 HB1
  by_cases hk : k = 0
  · subst hk
    obtain ⟨D1, hp, hz, hck⟩ := HX.out.back
    have Hp := hide_ hp
    have Hz := hide_ hz
    have Hck := hide_ hck
    clear hp hz hck
    go_wp2_with fail
    refine (parse_is Hp.out w2).mono ?_; rintro e w3 ⟨a1, c1, vs1, rfl, hc1, HS, HD1, HB3'⟩
    have HL1 := hide_ HS.out.lens
    simp only [Int.natCast_zero]
    obtain ⟨n1, hn1⟩ : ∃ n1, D1.length = n1 := ⟨_, rfl⟩
    have Hn1 := hide_ hn1
    rw [hn1] at hc1 ⊢
    obtain ⟨w4, hw4⟩ : ∃ w4, w4 = (w3.alloc (.cells #[.slice a1 n1 c1] 24)).alloc (.cells #[.int .i64 0, .int .i64 0] 39) := ⟨_, rfl⟩
    have q1 : Blk w4 w3.heap.size 24 [.slice a1 n1 c1] := by rw [hw4]; exact (Blk.newA w3 #[.slice a1 n1 c1] 24).alloc _
    have q2 : Blk w4 (w3.heap.size + 1) 39 [.int .i64 0, .int .i64 0] := by rw [hw4]; have h := Blk.newA (w3.alloc (.cells #[.slice a1 n1 c1] 24)) #[.int .i64 0, .int .i64 0] 39; simpa using h
    have hB4 : Below w3.heap.size w3 w4 := by rw [hw4]; exact below2 w3 _ _
    have HB24 := hide_ (HB3'.out.trans (hB4.mono HB3'.out.size))
    have HB4 := hide_ (HB2.out.trans (HB24.out.mono HB2.out.size))
    have HK4 := hide_ (HK2.out.later HB24.out)
    have HD4 := hide_ (HD1.out.1.later hB4)
    have HQ1 := hide_ q1
    have HQ2 := hide_ q2
    clear q1 q2 hB4 HB24 HB3' HD1 HS HK2 HB2 hn1 hc1 vs1
    have HSm := hide_ (showSame_any a1 a c1 c D1 D w4 HL1.out HL.out HD4 (hide_ (r.out.later HB4.out)))
    rw [Hn.out, Hn1.out] at HSm
    go_upto_region 7 with fail
    rw [← hw4]
    clear hw4
    have x0 := HK4.out.cell 0; have x1 := HQ1.out.cell 0; have x2 := HQ2.out.cell 0; have x3 := HQ2.out.cell 1
    simp at x0 x1 x2 x3
    go_wp2_with fail
    refine HSm.out.mono ?_; rintro e w5 ⟨v, rfl, HV, HB5'⟩
    obtain rfl : v = true := HV.out.2 Hz.out
    have HB5 := hide_ (HB4.out.trans (HB5'.out.mono HB4.out.size))
    have HQ5 := hide_ (HQ1.out.later HB5'.out)
    have HD5 := hide_ (HD4.out.later HB5'.out)
    clear HV HSm HB4 HK4 HQ1 HQ2 HD4 HB5' x0 x1 x2 x3
    have x1 := HQ5.out.cell 0
    simp at x1
    have HPr2 := hide_ (print_any a1 c1 n1 D1 w5 Hn1.out HL1.out HD5 (hide_ (ht.out.at HB5.out)))
    go_wp2_with fail
    refine HPr2.out.mono ?_; rintro e w6 ⟨X', k', rfl, HX', HB6'⟩
    obtain ⟨rfl, rfl⟩ := HX.out.same Hck.out Hz.out HX'.out
    have HB6 := hide_ (HB5.out.trans (HB6'.out.mono HB5.out.size))
    clear HB6' HB5 HQ5 HD5 x1 HX HX' HPr2 Hp Hz Hck
    go_wp2
    go_ret
    exact ⟨by simp, HB6.out⟩
  · obtain rfl := HX.out.err hk
    clear HX
    go_wp2
    go_ret
    exact ⟨rfl, HB2.out⟩
end Go.Proofs.YtbfmoiaedopeiaaDoor

/-
  What the reading of an argument says of memory, over any program. For a new seat: copy as <Name>Read.lean; put the Name for 'Seat', also in the import.
-/
namespace Go.Proofs.YtbfmoiaedopeiaaDoor
open Go.ChangeShapes Go.WideShapes Go.ChangeAt Go.RowKit
set_option linter.unusedVariables false

variable {H : Type} {enc : TypeId × Value → H} {P : Program} {w : World} {base : Nat} {held : Bool}

/-- A slice of integers that was read, its spare room too. -/
theorem row_read {t e : TypeId} {k : IntKind} (ht : P.underlying t = some (.slice e)) (he : P.underlying e = some (.int k)) (hc : P.cellsOf e = 1) {fuel : Nat} {v : Value} {y : DataW H × List MemPlace}
    (h : DataW.trod enc P w base (fun _ => true) held fuel t [v] = some y) :
    ∃ a n cap l, v = .slice a n cap ∧ n ≤ cap ∧ cap ≤ maxLen ∧ l.length = n ∧ Row k w a l ∧ (a = none → cap = 0) ∧ ∀ x ∈ l, (Lit.int k x).wf = true := by
  rcases open_ints ht he hc h with ⟨hcs, _⟩ | ⟨x, l, c, zs, hcs, _, hl, hm, hz, _, hcell, hwz⟩
  · simp at hcs
    subst hcs
    exact ⟨none, 0, 0, [], rfl, Nat.le_refl _, Nat.zero_le _, rfl, .inl ⟨rfl, rfl⟩, fun _ => rfl, fun x hx => by cases hx⟩
  · simp at hcs
    subst hcs
    have hz' : zs.length = c := by simpa using hz
    refine ⟨some x, l, c, zs.take l, rfl, hl, hm, by simp; omega, .inr ⟨x, rfl, fun i hi => ?_⟩, (fun h => by cases h), fun x hx => hwz x (List.mem_of_mem_take hx)⟩
    have h1 : i < l := by simp at hi; omega
    rw [hcell i (by omega)]
    simp [List.getD, h1]
/-- The same, with what it weighs. -/
theorem row_weigh {t e : TypeId} {k : IntKind} (ht : P.underlying t = some (.slice e)) (he : P.underlying e = some (.int k)) (hc : P.cellsOf e = 1) {fuel : Nat} {v : Value} {y : DataW H × List MemPlace}
    (h : DataW.trod enc P w base (fun _ => true) held fuel t [v] = some y) :
    ∃ a n cap l, v = .slice a n cap ∧ n ≤ cap ∧ cap ≤ maxLen ∧ l.length = n ∧ Row k w a l ∧ (a = none → cap = 0) ∧ (∀ x ∈ l, (Lit.int k x).wf = true) ∧ (cap = 0 ∨ cap * P.bytesOf e ∈ y.1.weights P t) := by
  rcases open_ints ht he hc h with ⟨hcs, _⟩ | ⟨x, l, c, zs, hcs, _, hl, hm, hz, hy, hcell, hwz⟩
  · simp at hcs
    subst hcs
    exact ⟨none, 0, 0, [], rfl, Nat.le_refl _, Nat.zero_le _, rfl, .inl ⟨rfl, rfl⟩, fun _ => rfl, (fun x hx => by cases hx), .inl rfl⟩
  · simp at hcs
    subst hcs
    have hz' : zs.length = c := by simpa using hz
    refine ⟨some x, l, c, zs.take l, rfl, hl, hm, by simp; omega, .inr ⟨x, rfl, fun i hi => ?_⟩, (fun h => by cases h), (fun x hx => hwz x (List.mem_of_mem_take hx)), .inr ?_⟩
    · have h1 : i < l := by simp at hi; omega
      rw [hcell i (by omega)]
      simp [List.getD, h1]
    · subst hy
      simp only [DataW.weights, ht, lits, List.length_map, List.length_take, List.length_drop]
      rw [hz', show min l c + (c - l) = c from by omega]
      exact List.mem_cons_self
/-- A struct's cells, field by field: field number i of a struct whose fields are of one cell each. -/
theorem field_read {t : TypeId} {fs : Array Field} (ht : P.underlying t = some (.struct fs)) {fuel : Nat} {cs : List Value} {y : DataW H × List MemPlace} (h : DataW.trod enc P w base (fun _ => true) held fuel t cs = some y) :
    cs.length = P.cellsOf t ∧ ∃ m, ∀ (i : Nat) (f : Field) (c : Value), fs[i]? = some f → P.cellsOf f.type = 1 → cs[f.offset]? = some c → ∃ z, DataW.trod enc P w base (fun _ => true) held m f.type [c] = some z := by
  obtain ⟨xs, m, _, _, hl, hlen, hf⟩ := DataW.trod_struct ht h
  refine ⟨hl, m, fun i f c hfi hc1 hco => ?_⟩
  have hi : i < xs.length := by
    rw [hlen]
    exact (Array.getElem?_eq_some_iff.1 hfi).1
  have h1 := hf i f hfi
  rw [hc1, List.getElem?_eq_getElem hi] at h1
  obtain ⟨hol, hoc⟩ := List.getElem?_eq_some_iff.1 hco
  have e : (cs.drop f.offset).take 1 = [c] := by
    rw [List.drop_eq_getElem_cons hol, hoc]
    rfl
  rw [e] at h1
  exact ⟨_, h1⟩
/-- A slice of structs of n cells each: each element's cells, and that they were read. -/
theorem structs_read {t e : TypeId} (ht : P.underlying t = some (.slice e)) (hpos : 0 < P.cellsOf e) {fuel : Nat} {a0 : Option Addr} {len cap : Nat} {y : DataW H × List MemPlace} (h : DataW.trod enc P w base (fun _ => true) held fuel t [.slice a0 len cap] = some y) :
    len = 0 ∨ ∃ b off n, a0 = some ⟨b, off, none⟩ ∧ b < w.heap.size ∧ len ≤ cap ∧ cap ≤ maxLen ∧ ∀ i, i < len → ∃ cs z, cs.length = P.cellsOf e ∧ (∀ j, j < P.cellsOf e → w.cell? ⟨b, off + i * P.cellsOf e + j, none⟩ = cs[j]?) ∧ DataW.trod enc P w base (fun _ => true) held n e cs = some z := by
  rcases Go.Deep.open_slice ht h with ⟨hcs, _⟩ | ⟨x, l, c, m, n, D, Pl, hcs, _, hl, hm, hmm, _, hel⟩
  · left
    simp at hcs
    exact hcs.2.1
  · simp at hcs
    obtain ⟨rfl, rfl, rfl⟩ := hcs
    by_cases h0 : len = 0
    · exact .inl h0
    right
    have hmc : m = cap := by simpa using hmm
    obtain ⟨b, off, spot⟩ := x
    obtain ⟨cs0, hc0, _⟩ := hel 0 (by omega)
    have q0 := (World.cells?_some hc0).2.2 0 hpos
    have hlen0 := (World.cells?_some hc0).2.1
    have hz : ((⟨b, off, spot⟩ : Addr).add (0 * P.cellsOf e)).add 0 = ⟨b, off, spot⟩ := by simp [Addr.add]
    rw [hz] at q0
    have q1 : w.cell? ⟨b, off, spot⟩ = some (cs0[0]'(by omega)) := by rw [q0]; exact List.getElem?_eq_getElem _
    have hspot : spot = none := by simpa using World.cell?_spot q1
    subst hspot
    refine ⟨b, off, n, rfl, World.block_lt_of_cell? w _ q1, hl, hm, fun i hi => ?_⟩
    obtain ⟨cs, hcs, ht'⟩ := hel i (by omega)
    refine ⟨cs, _, (World.cells?_some hcs).2.1, fun j hj => ?_, ht'⟩
    have hcell := (World.cells?_some hcs).2.2 j hj
    rw [add_none, add_none] at hcell
    exact hcell
end Go.Proofs.YtbfmoiaedopeiaaDoor

/-
  What the reading of an argument says of memory, with what each slice in it weighs. For a new seat: copy as <Name>Weigh.lean; put the Name for 'Seat', also in the import.
-/
namespace Go.Proofs.YtbfmoiaedopeiaaDoor
open Go.ChangeShapes Go.WideShapes Go.ChangeAt Go.RowKit
set_option linter.unusedVariables false

variable {H : Type} {enc : TypeId × Value → H} {P : Program} {w : World} {base : Nat} {held : Bool}

theorem weights_all {e : TypeId} : ∀ {ds : List (DataW H)} {d : DataW H}, d ∈ ds → ∀ n ∈ d.weights P e, n ∈ DataW.weightsAll P e ds
  | [], d, h, _, _ => by cases h
  | x :: r, d, h, n, hn => by
    simp only [DataW.weightsAll, List.mem_append]
    rcases List.mem_cons.1 h with rfl | h
    · exact .inl hn
    · exact .inr (weights_all h n hn)
/-- A struct's cells, field by field. -/
theorem field_weigh {t : TypeId} {fs : Array Field} (ht : P.underlying t = some (.struct fs)) {fuel : Nat} {cs : List Value} {y : DataW H × List MemPlace} (h : DataW.trod enc P w base (fun _ => true) held fuel t cs = some y) :
    cs.length = P.cellsOf t ∧ ∃ m, ∀ (i : Nat) (f : Field) (c : Value), fs[i]? = some f → P.cellsOf f.type = 1 → cs[f.offset]? = some c → ∃ z, DataW.trod enc P w base (fun _ => true) held m f.type [c] = some z ∧ ∀ n ∈ z.1.weights P f.type, n ∈ y.1.weights P t := by
  obtain ⟨xs, m, _, hy, hl, hlen, hf⟩ := DataW.trod_struct ht h
  refine ⟨hl, m, fun i f c hfi hc1 hco => ?_⟩
  have hi : i < xs.length := by
    rw [hlen]
    exact (Array.getElem?_eq_some_iff.1 hfi).1
  have h1 := hf i f hfi
  rw [hc1, List.getElem?_eq_getElem hi] at h1
  obtain ⟨hol, hoc⟩ := List.getElem?_eq_some_iff.1 hco
  have e : (cs.drop f.offset).take 1 = [c] := by
    rw [List.drop_eq_getElem_cons hol, hoc]
    rfl
  rw [e] at h1
  refine ⟨_, h1, fun n hn => ?_⟩
  subst hy
  simp only [DataW.weights, ht]
  refine DataW.weights_mem_each (j := i) (t := f.type) (d := (xs[i]).1) ?_ ?_ n hn
  · rw [List.getElem?_map, Array.getElem?_toList, hfi]; rfl
  · rw [List.getElem?_map, List.getElem?_eq_getElem hi]; rfl
/-- A slice of structs. -/
theorem structs_weigh {t e : TypeId} (ht : P.underlying t = some (.slice e)) (hpos : 0 < P.cellsOf e) {fuel : Nat} {a0 : Option Addr} {len cap : Nat} {y : DataW H × List MemPlace} (h : DataW.trod enc P w base (fun _ => true) held fuel t [.slice a0 len cap] = some y) :
    len = 0 ∨ ∃ b off n, a0 = some ⟨b, off, none⟩ ∧ b < w.heap.size ∧ len ≤ cap ∧ cap ≤ maxLen ∧ ∀ i, i < len → ∃ cs z, cs.length = P.cellsOf e ∧ (∀ j, j < P.cellsOf e → w.cell? ⟨b, off + i * P.cellsOf e + j, none⟩ = cs[j]?) ∧ DataW.trod enc P w base (fun _ => true) held n e cs = some z ∧ ∀ n ∈ z.1.weights P e, n ∈ y.1.weights P t := by
  rcases Go.Deep.open_slice ht h with ⟨hcs, _⟩ | ⟨x, l, c, m, n, D, Pl, hcs, _, hl, hm, hmm, hy, hel⟩
  · left
    simp at hcs
    exact hcs.2.1
  · simp at hcs
    obtain ⟨rfl, rfl, rfl⟩ := hcs
    by_cases h0 : len = 0
    · exact .inl h0
    right
    have hmc : m = cap := by simpa using hmm
    obtain ⟨b, off, spot⟩ := x
    obtain ⟨cs0, hc0, _⟩ := hel 0 (by omega)
    have q0 := (World.cells?_some hc0).2.2 0 hpos
    have hlen0 := (World.cells?_some hc0).2.1
    have hz : ((⟨b, off, spot⟩ : Addr).add (0 * P.cellsOf e)).add 0 = ⟨b, off, spot⟩ := by simp [Addr.add]
    rw [hz] at q0
    have q1 : w.cell? ⟨b, off, spot⟩ = some (cs0[0]'(by omega)) := by rw [q0]; exact List.getElem?_eq_getElem _
    have hspot : spot = none := by simpa using World.cell?_spot q1
    subst hspot
    refine ⟨b, off, n, rfl, World.block_lt_of_cell? w _ q1, hl, hm, fun i hi => ?_⟩
    obtain ⟨cs, hcs, ht'⟩ := hel i (by omega)
    refine ⟨cs, _, (World.cells?_some hcs).2.1, fun j hj => ?_, ht', fun k hk => ?_⟩
    · have hcell := (World.cells?_some hcs).2.2 j hj
      rw [add_none, add_none] at hcell
      exact hcell
    · subst hy
      simp only [DataW.weights, ht, List.mem_cons, List.mem_append]
      exact .inr (.inl (weights_all (d := D i) (List.mem_map.2 ⟨i, List.mem_range.2 hi, rfl⟩) k hk))
end Go.Proofs.YtbfmoiaedopeiaaDoor
