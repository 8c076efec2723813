import Derived.Test.YtjojbfendkodgaaDoorCvl
import Derived.Test.YtjojbfendkodgaaDoorCdl
import Derived.Test.YtjojbfendkodgaaDoorCmc
import Derived.BigQuiet
import Derived.Test.YtjojbfendkodgaaDoorCmf
import Derived.Test.YtjojbfendkodgaaDoorCdx
import Derived.Test.YtjojbfendkodgaaDoorCme
import Derived.Test.YtjojbfendkodgaaDoorCdw
import Derived.Test.YtjojbfendkodgaaDoorCed
import Derived.Test.YtjojbfendkodgaaDoorRgf
import Derived.Test.YtjojbfendkodgaaDoorCmd
import Derived.Test.YtjojbfendkodgaaDoorCdo
import Derived.Test.YtjojbfendkodgaaDoorWeigh
import Derived.Test.YtjojbfendkodgaaDoorCdc
import Derived.Test.YtjojbfendkodgaaDoorRows
import Derived.Test.YtjojbfendkodgaaDoorCds
import Derived.WalkKit
import Derived.ProofKit
import Derived.OpenShut
import Derived.Deep.DeepHandedRow
import Derived.Lib.LaidTab
import Derived.Stop.LaidErr
import Derived.Test.YtjojbfendkodgaaDoorCards
import Derived.Test.YtjojbfendkodgaaDoorTie
import Derived.Test.YtjojbfendkodgaaDoorRead
import Derived.SizedLaws
import Derived.ChangeMaps5
import Derived.Below
import Derived.ShutString
/- Code: the document's reader: number. -/
namespace Go.Proofs.YtjojbfendkodgaaDoor
open Go.RowKit
set_option linter.unusedVariables false

def rrc (v : Value) (s : Rs) : List Value := [v, .int .i64 (s.at_ : Int), .int .i64 s.e, .int .i64 s.p]
/-- The document's reader stands as the program's: the same error at the same place, or the same place. -/
structure Sim (t s : Rs) : Prop where
  e : t.e = s.e
  ok : s.e = 0 → t = s
  no : s.e ≠ 0 → t.p = s.p
theorem Sim.refl (s : Rs) : Sim s s := ⟨rfl, fun _ => rfl, fun _ => rfl⟩
theorem Row.heap {k : IntKind} {w w' : World} {a : Option Addr} {l : List Int} (h : Row k w a l) (hh : w'.heap = w.heap) : Row k w' a l := by
  rcases h with h | ⟨x, h, hc⟩
  · exact .inl h
  · exact .inr ⟨x, h, fun i hi => by have := hc i hi; unfold World.cell? at this ⊢; rw [hh]; exact this⟩
def mayM (most : Int) (n : Int) : Bool := decide (n ≤ most)
def RnTo (gr : Nat) (v : Value) (l : List Int) (s : Rs) (er most : Int) (w : World) (e : Ending) (w' : World) : Prop := ∃ t', e = .returned (.int .i64 (wrap64 (rdV l s er (mayM most)).1)) ∧ Hid (Sim t' (rdV l s er (mayM most)).2) ∧ Hid (Blk w' gr 74 (rrc v t')) ∧ Hid (Upd (fun k => k = gr) w w')
set_option maxRecDepth 100000 in
set_option maxHeartbeats 8000000 in
theorem rnumber_any (gr : Nat) (av : Option Addr) (cv : Nat) (l : List Int) (t s : Rs) (most er : Int) (w : World) (hst : Hid (Sim t s)) (her : er ≠ 0) (hs : s.at_ ≤ l.length) (hlc : l.length ≤ cv) (hcv : cv ≤ 9223372036854775000) (hnil : av = none → cv = 0) (hby : Hid (Bys l)) (hrow : Hid (Row .u8 w av l)) (h : Hid (Blk w gr 74 (rrc (.slice av l.length cv) t))) :
    Calls Tryd.prog 37 #[.pointer (some ⟨gr, 0, none⟩), .int .u64 most, .int .i64 er] w (RnTo gr (.slice av l.length cv) l s er most w) := by
  by_cases he : s.e = 0
  case neg =>
    have e1 : rdV l s er (mayM most) = (0, s) := by unfold rdV; rw [if_neg he]
    have HE1 := hide_ e1
    have hte : t.e ≠ 0 := by rw [hst.out.e]; exact he
    have hb : (t.e != 0) = true := by simpa using hte
    have c2 := h.out.cell 2
    simp [rrc] at c2
    clear he hte e1
    go_enter Tryd.func37, Tryd.ntmps37
    go_wp2
    go_ret
    exact ⟨t, by rw [HE1.out, show wrap64 ((0 : Int), s).1 = 0 from w64 0 (by decide)]; rfl, by rw [HE1.out]; exact hst, h, hide_ (Upd.refl _ _)⟩
  obtain rfl := hst.out.ok he
  clear hst
  have hG := getF_le (l.drop t.at_)
  rw [List.length_drop] at hG
  have h64 := get_u64 (getF_R (l.drop t.at_)) (hby.out.drop _)
  have HV : Hid (rdV l t er (mayM most) = if (getF (l.drop t.at_)).2.2 = 0 then (if mayM most (getF (l.drop t.at_)).1 = true then ((getF (l.drop t.at_)).1, ⟨t.at_ + (getF (l.drop t.at_)).2.1, 0, t.p⟩) else (0, ⟨t.at_ + (getF (l.drop t.at_)).2.1, er, t.at_⟩)) else (0, ⟨t.at_ + (getF (l.drop t.at_)).2.1, (getF (l.drop t.at_)).2.2, (t.at_ + (getF (l.drop t.at_)).2.1 : Nat)⟩)) := hide_ (by unfold rdV; rw [if_pos he])
  have HGet : Hid (∀ (a' : Option Addr) (m' c' : Nat) w', Row .u8 w' a' (l.drop t.at_) → m' = l.length - t.at_ → m' ≤ c' → c' ≤ 9223372036854775000 → Calls Tryd.prog 61 #[.slice a' m' c'] w' fun e w'' => e = .returned (.tuple #[.int .u64 (getF (l.drop t.at_)).1, .int .i64 ((getF (l.drop t.at_)).2.1 : Nat), .int .i64 (getF (l.drop t.at_)).2.2]) ∧ w' = w'') := hide_ (fun a' m' c' w' hr' hm hmc hcm => by
    refine (rget_any a' m' c' (l.drop t.at_) w' (by rw [List.length_drop]; omega) hmc (by unfold maxLen; omega) hr' (hby.out.drop _)).mono ?_
    rintro e w' ⟨n, u, r, hR, rfl, rfl⟩
    rw [hR.getF]
    exact ⟨rfl, rfl⟩)
  have HRw : Hid (∀ aa, (av = none → aa = none) → (∀ x, av = some x → aa = if cv = t.at_ then some x else some (x.add t.at_)) → Row .u8 w aa (l.drop t.at_)) := hide_ (fun aa h0 h1 => by
    rcases hrow.out with ⟨q1, q2⟩ | ⟨x, q1, q2⟩
    · rw [h0 q1, q2]
      exact .inl ⟨rfl, by simp⟩
    · rw [h1 x q1]
      by_cases hz : l.length ≤ t.at_
      · rw [List.drop_eq_nil_of_le hz]
        split
        · exact .inr ⟨_, rfl, fun i hi => by simp at hi⟩
        · exact .inr ⟨_, rfl, fun i hi => by simp at hi⟩
      · obtain ⟨b, off, h3, -, -⟩ := hrow.out.open (by omega)
        have hx : x = ⟨b, off, none⟩ := by rw [q1] at h3; injection h3
        subst hx
        rw [if_neg (by omega), add_none]
        exact row_drop (a := av) (by rw [← q1]; exact hrow.out) t.at_)
  generalize getF (l.drop t.at_) = G at *
  obtain ⟨n, u, r⟩ := G
  simp only at HGet hG h64 HV
  simp only [Int.natCast_add] at HV
  have c0 := h.out.cell 0; have c1 := h.out.cell 1; have c2 := h.out.cell 2; have c3 := h.out.cell 3
  have fz := fun i => h.out.frozen i
  simp [rrc] at c0 c1 c2 c3
  have hteb : (t.e != 0) = false := by simpa using he
  have hle : (t.at_ : Int) ≤ l.length := by omega
  have hlcv : (l.length : Int) ≤ cv := by omega
  have Hhe := hide_ he
  clear he
  go_enter Tryd.func37, Tryd.ntmps37
  go_upto_region 3 with fail
  have HSS : Hid (∀ w' : World, w'.heap = w.heap → w'.cell? ⟨gr, 0, none⟩ = some (.slice av l.length cv) ∧ w'.cell? ⟨gr, 1, none⟩ = some (.int .i64 (t.at_ : Int))) := hide_ (fun w' hB => by
    have e : ∀ a, w'.cell? a = w.cell? a := fun a => by unfold World.cell?; rw [hB]
    exact ⟨(e _).trans c0, (e _).trans c1⟩)
  go_cut [7, 8, 9] from 15 to 28 (fun x7 x8 x9 wc => x7 = .int .u64 n ∧ x8 = .int .i64 (u : Int) ∧ x9 = .int .i64 r ∧ w.drew = wc)
  case first =>
    clear c2 c3
    cases av with
    | none =>
      obtain rfl := hnil rfl
      have hl0 : l.length = 0 := by omega
      have ht0 : t.at_ = 0 := by omega
      have hrr := HRw.out none (fun _ => rfl) (fun x hx => by cases hx)
      have HGt : Hid (∀ w' : World, w'.heap = w.heap → Calls Tryd.prog 61 #[.slice none 0 0] w' fun e w'' => e = .returned (.tuple #[.int .u64 n, .int .i64 (u : Int), .int .i64 r]) ∧ w' = w'') := hide_ (fun w' hB => HGet.out none 0 0 w' (hrr.heap hB) (by omega) (by omega) (by omega))
      rw [hl0, ht0] at HSS
      simp only [Int.natCast_zero] at HSS
      clear hrr c0 c1 HRw HGet
      --R1
      refine wp_region_last 16 (fun (w' : World) => w'.cell? ⟨gr, 0, none⟩ = some (.slice none 0 0) ∧ w'.cell? ⟨gr, 1, none⟩ = some (.int .i64 0)) (by kernel_rfl) (HSS.out _ rfl) (fun hHeld => ?_)
      refine wpAnyF_take [16] (by kernel_rfl) (i := 0) (v := ?vr11) rfl (by kernel_rfl) (by kernel_rfl) (by kernel_rfl) (fun _ _ _ h => h) (Or.inl ⟨by kernel_rfl, ?hyr11⟩) hHeld ?restr11
      case hyr11 => intro w' hSw; (try dsimp only at hSw); go_simp; try with_reducible rfl
      simp only [Act.put]
      refine wpAnyF_take [16] (by kernel_rfl) (i := 1) (v := ?vr12) rfl (by kernel_rfl) (by kernel_rfl) (by kernel_rfl) (fun _ _ _ h => h) (Or.inl ⟨by kernel_rfl, ?hyr12⟩) hHeld ?restr12
      case hyr12 => intro w' hSw; (try dsimp only at hSw); go_simp; try with_reducible rfl
      simp only [Act.put]
      refine wpAnyF_take [16] (by kernel_rfl) (i := 2) (v := ?vr13) rfl (by kernel_rfl) (by kernel_rfl) (by kernel_rfl) (fun _ _ _ h => h) (Or.inl ⟨by kernel_rfl, ?hyr13⟩) hHeld ?restr13
      case hyr13 => intro w' hSw; (try dsimp only at hSw); go_simp; try with_reducible rfl
      simp only [Act.put]
      refine wpAnyF_take [16] (by kernel_rfl) (i := 3) (v := ?vr14) rfl (by kernel_rfl) (by kernel_rfl) (by kernel_rfl) (fun _ _ _ h => h) (Or.inl ⟨by kernel_rfl, ?hyr14⟩) hHeld ?restr14
      case hyr14 => intro w' hSw; (try dsimp only at hSw); go_simp; try with_reducible rfl
      simp only [Act.put]
      refine wpAnyF_take [16] (by kernel_rfl) (i := 4) (v := ?vr15) rfl (by kernel_rfl) (by kernel_rfl) (by kernel_rfl) (fun _ _ _ h => h) (Or.inl ⟨by kernel_rfl, ?hyr15⟩) hHeld ?restr15
      case hyr15 => intro w' hSw; (try dsimp only at hSw); go_simp; try with_reducible rfl
      simp only [Act.put]
      refine wpAnyF_take [16] (by kernel_rfl) (i := 5) (v := ?vr16) rfl (by kernel_rfl) (by kernel_rfl) (by kernel_rfl) (fun _ _ _ h => h) (Or.inl ⟨by kernel_rfl, ?hyr16⟩) hHeld ?restr16
      case hyr16 => intro w' hSw; (try dsimp only at hSw); go_simp; try with_reducible rfl
      simp only [Act.put]
      refine wpAnyF_take [16] (by kernel_rfl) (i := 6) (v := ?vr17) rfl (by kernel_rfl) (by kernel_rfl) (by kernel_rfl) (fun _ _ _ h => h) (Or.inl ⟨by kernel_rfl, ?hyr17⟩) hHeld ?restr17
      case hyr17 => intro w' hSw; (try dsimp only at hSw); go_simp; try with_reducible rfl
      simp only [Act.put]
      refine wpAnyF_take [16] (by kernel_rfl) (i := 7) (v := ?vr18) rfl (by kernel_rfl) (by kernel_rfl) (by kernel_rfl) (fun _ _ _ h => h) (Or.inl ⟨by kernel_rfl, ?hyr18⟩) hHeld ?restr18
      case hyr18 => intro w' hSw; (try dsimp only at hSw); go_simp; try with_reducible rfl
      simp only [Act.put]
      refine wpAnyF_take [16] (by kernel_rfl) (i := 8) (v := ?vr19) rfl (by kernel_rfl) (by kernel_rfl) (by kernel_rfl) (fun _ _ _ h => h) (Or.inl ⟨by kernel_rfl, ?hyr19⟩) hHeld ?restr19
      case hyr19 => intro w' hSw; (try dsimp only at hSw); go_simp; try with_reducible rfl
      simp only [Act.put]
      refine wpAnyF_ready (rs := [9]) (by kernel_rfl) (by simp) ?_
      refine AllReadyF.cons rfl (fun K hK => ?_) AllReadyF.nil
      go_simp
      refine (HGt.out w.drew rfl).mono ?_
      rintro e wC ⟨rfl, rfl⟩
      dsimp only
      refine hK.out _ _ (HSS.out _ rfl) (fun hHeld => ?_)
      clear hK K
      refine wpAnyF_take [16] (by kernel_rfl) (i := 10) (v := ?vr110) rfl (by kernel_rfl) (by kernel_rfl) (by kernel_rfl) (fun _ _ _ h => h) (Or.inl ⟨by kernel_rfl, ?hyr110⟩) hHeld ?restr110
      case hyr110 => intro w' hSw; (try dsimp only at hSw); go_simp; try with_reducible rfl
      simp only [Act.put]
      refine wpAnyF_take [16] (by kernel_rfl) (i := 11) (v := ?vr111) rfl (by kernel_rfl) (by kernel_rfl) (by kernel_rfl) (fun _ _ _ h => h) (Or.inl ⟨by kernel_rfl, ?hyr111⟩) hHeld ?restr111
      case hyr111 => intro w' hSw; (try dsimp only at hSw); go_simp; try with_reducible rfl
      simp only [Act.put]
      refine wpAnyF_take [16] (by kernel_rfl) (i := 12) (v := ?vr112) rfl (by kernel_rfl) (by kernel_rfl) (by kernel_rfl) (fun _ _ _ h => h) (Or.inl ⟨by kernel_rfl, ?hyr112⟩) hHeld ?restr112
      case hyr112 => intro w' hSw; (try dsimp only at hSw); go_simp; try with_reducible rfl
      simp only [Act.put]
      refine wpAnyF_take [16] (by kernel_rfl) (i := 13) (v := ?vr113) rfl (by kernel_rfl) (by kernel_rfl) (by kernel_rfl) (fun _ _ _ h => h) (Or.inl ⟨by kernel_rfl, ?hyr113⟩) hHeld ?restr113
      case hyr113 => intro w' hSw; (try dsimp only at hSw); go_simp; try with_reducible rfl
      simp only [Act.put]
      refine wpAnyF_take [16] (by kernel_rfl) (i := 14) (v := ?vr114) rfl (by kernel_rfl) (by kernel_rfl) (by kernel_rfl) (fun _ _ _ h => h) (Or.inl ⟨by kernel_rfl, ?hyr114⟩) hHeld ?restr114
      case hyr114 => intro w' hSw; (try dsimp only at hSw); go_simp; try with_reducible rfl
      simp only [Act.put]
      refine wpAnyF_take [16] (by kernel_rfl) (i := 15) (v := ?vr115) rfl (by kernel_rfl) (by kernel_rfl) (by kernel_rfl) (fun _ _ _ h => h) (Or.inl ⟨by kernel_rfl, ?hyr115⟩) hHeld ?restr115
      case hyr115 => intro w' hSw; (try dsimp only at hSw); go_simp; try with_reducible rfl
      simp only [Act.put]
      refine wpAnyF_ready (rs := [16]) (by kernel_rfl) (by simp) ?_
      refine AllReadyF.last rfl (fun K hK => ?_)
      go_simp
      refine hK.out _ _ ?_
      clear hK K
      refine wpAnyF_done (by kernel_rfl) ?_ _
      go_wp2_with fail
      go_meet
      case rel => exact ⟨rfl, rfl, rfl, rfl⟩
      --/R1
    | some x =>
      obtain ⟨aa, haa⟩ : ∃ aa, (if cv = t.at_ then some x else some (x.add t.at_)) = aa := ⟨_, rfl⟩
      have hrr := HRw.out aa (fun h => by cases h) (fun y hy => by injection hy with hy; subst hy; exact haa.symm)
      have HGt : Hid (∀ (w' : World) (m' c' : Nat), w'.heap = w.heap → m' = l.length - t.at_ → m' ≤ c' → c' ≤ 9223372036854775000 → Calls Tryd.prog 61 #[.slice aa m' c'] w' fun e w'' => e = .returned (.tuple #[.int .u64 n, .int .i64 (u : Int), .int .i64 r]) ∧ w' = w'') := hide_ (fun w' m' c' hB h1 h2 h3 => HGet.out aa m' c' w' (hrr.heap hB) h1 h2 h3)
      clear hrr c0 c1 HRw HGet
      --R2
      refine wp_region_last 16 (fun (w' : World) => w'.cell? ⟨gr, 0, none⟩ = some (.slice (some x) l.length cv) ∧ w'.cell? ⟨gr, 1, none⟩ = some (.int .i64 (t.at_ : Int))) (by kernel_rfl) (HSS.out _ rfl) (fun hHeld => ?_)
      refine wpAnyF_take [16] (by kernel_rfl) (i := 0) (v := ?vr21) rfl (by kernel_rfl) (by kernel_rfl) (by kernel_rfl) (fun _ _ _ h => h) (Or.inl ⟨by kernel_rfl, ?hyr21⟩) hHeld ?restr21
      case hyr21 => intro w' hSw; (try dsimp only at hSw); go_simp; try with_reducible rfl
      simp only [Act.put]
      refine wpAnyF_take [16] (by kernel_rfl) (i := 1) (v := ?vr22) rfl (by kernel_rfl) (by kernel_rfl) (by kernel_rfl) (fun _ _ _ h => h) (Or.inl ⟨by kernel_rfl, ?hyr22⟩) hHeld ?restr22
      case hyr22 => intro w' hSw; (try dsimp only at hSw); go_simp; try with_reducible rfl
      simp only [Act.put]
      refine wpAnyF_take [16] (by kernel_rfl) (i := 2) (v := ?vr23) rfl (by kernel_rfl) (by kernel_rfl) (by kernel_rfl) (fun _ _ _ h => h) (Or.inl ⟨by kernel_rfl, ?hyr23⟩) hHeld ?restr23
      case hyr23 => intro w' hSw; (try dsimp only at hSw); go_simp; try with_reducible rfl
      simp only [Act.put]
      refine wpAnyF_take [16] (by kernel_rfl) (i := 3) (v := ?vr24) rfl (by kernel_rfl) (by kernel_rfl) (by kernel_rfl) (fun _ _ _ h => h) (Or.inl ⟨by kernel_rfl, ?hyr24⟩) hHeld ?restr24
      case hyr24 => intro w' hSw; (try dsimp only at hSw); go_simp; try with_reducible rfl
      simp only [Act.put]
      refine wpAnyF_take [16] (by kernel_rfl) (i := 4) (v := ?vr25) rfl (by kernel_rfl) (by kernel_rfl) (by kernel_rfl) (fun _ _ _ h => h) (Or.inl ⟨by kernel_rfl, ?hyr25⟩) hHeld ?restr25
      case hyr25 => intro w' hSw; (try dsimp only at hSw); go_simp; try with_reducible rfl
      simp only [Act.put]
      refine wpAnyF_take [16] (by kernel_rfl) (i := 5) (v := ?vr26) rfl (by kernel_rfl) (by kernel_rfl) (by kernel_rfl) (fun _ _ _ h => h) (Or.inl ⟨by kernel_rfl, ?hyr26⟩) hHeld ?restr26
      case hyr26 => intro w' hSw; (try dsimp only at hSw); go_simp; try with_reducible rfl
      simp only [Act.put]
      refine wpAnyF_take [16] (by kernel_rfl) (i := 6) (v := ?vr27) rfl (by kernel_rfl) (by kernel_rfl) (by kernel_rfl) (fun _ _ _ h => h) (Or.inl ⟨by kernel_rfl, ?hyr27⟩) hHeld ?restr27
      case hyr27 => intro w' hSw; (try dsimp only at hSw); go_simp; try with_reducible rfl
      simp only [Act.put]
      refine wpAnyF_take [16] (by kernel_rfl) (i := 7) (v := ?vr28) rfl (by kernel_rfl) (by kernel_rfl) (by kernel_rfl) (fun _ _ _ h => h) (Or.inl ⟨by kernel_rfl, ?hyr28⟩) hHeld ?restr28
      case hyr28 => intro w' hSw; (try dsimp only at hSw); go_simp; try with_reducible rfl
      simp only [Act.put]
      refine wpAnyF_take [16] (by kernel_rfl) (i := 8) (v := ?vr29) rfl (by kernel_rfl) (by kernel_rfl) (by kernel_rfl) (fun _ _ _ h => h) (Or.inl ⟨by kernel_rfl, ?hyr29⟩) hHeld ?restr29
      case hyr29 => intro w' hSw; (try dsimp only at hSw); go_simp; try with_reducible rfl
      simp only [Act.put]
      refine wpAnyF_ready (rs := [9]) (by kernel_rfl) (by simp) ?_
      refine AllReadyF.cons rfl (fun K hK => ?_) AllReadyF.nil
      go_simp
      refine (HGt.out w.drew _ _ rfl (by first | rfl | omega) (by omega) (by omega)).mono ?_
      rintro e wC ⟨rfl, rfl⟩
      dsimp only
      refine hK.out _ _ (HSS.out _ rfl) (fun hHeld => ?_)
      clear hK K
      refine wpAnyF_take [16] (by kernel_rfl) (i := 10) (v := ?vr210) rfl (by kernel_rfl) (by kernel_rfl) (by kernel_rfl) (fun _ _ _ h => h) (Or.inl ⟨by kernel_rfl, ?hyr210⟩) hHeld ?restr210
      case hyr210 => intro w' hSw; (try dsimp only at hSw); go_simp; try with_reducible rfl
      simp only [Act.put]
      refine wpAnyF_take [16] (by kernel_rfl) (i := 11) (v := ?vr211) rfl (by kernel_rfl) (by kernel_rfl) (by kernel_rfl) (fun _ _ _ h => h) (Or.inl ⟨by kernel_rfl, ?hyr211⟩) hHeld ?restr211
      case hyr211 => intro w' hSw; (try dsimp only at hSw); go_simp; try with_reducible rfl
      simp only [Act.put]
      refine wpAnyF_take [16] (by kernel_rfl) (i := 12) (v := ?vr212) rfl (by kernel_rfl) (by kernel_rfl) (by kernel_rfl) (fun _ _ _ h => h) (Or.inl ⟨by kernel_rfl, ?hyr212⟩) hHeld ?restr212
      case hyr212 => intro w' hSw; (try dsimp only at hSw); go_simp; try with_reducible rfl
      simp only [Act.put]
      refine wpAnyF_take [16] (by kernel_rfl) (i := 13) (v := ?vr213) rfl (by kernel_rfl) (by kernel_rfl) (by kernel_rfl) (fun _ _ _ h => h) (Or.inl ⟨by kernel_rfl, ?hyr213⟩) hHeld ?restr213
      case hyr213 => intro w' hSw; (try dsimp only at hSw); go_simp; try with_reducible rfl
      simp only [Act.put]
      refine wpAnyF_take [16] (by kernel_rfl) (i := 14) (v := ?vr214) rfl (by kernel_rfl) (by kernel_rfl) (by kernel_rfl) (fun _ _ _ h => h) (Or.inl ⟨by kernel_rfl, ?hyr214⟩) hHeld ?restr214
      case hyr214 => intro w' hSw; (try dsimp only at hSw); go_simp; try with_reducible rfl
      simp only [Act.put]
      refine wpAnyF_take [16] (by kernel_rfl) (i := 15) (v := ?vr215) rfl (by kernel_rfl) (by kernel_rfl) (by kernel_rfl) (fun _ _ _ h => h) (Or.inl ⟨by kernel_rfl, ?hyr215⟩) hHeld ?restr215
      case hyr215 => intro w' hSw; (try dsimp only at hSw); go_simp; try with_reducible rfl
      simp only [Act.put]
      refine wpAnyF_ready (rs := [16]) (by kernel_rfl) (by simp) ?_
      refine AllReadyF.last rfl (fun K hK => ?_)
      go_simp
      refine hK.out _ _ ?_
      clear hK K
      refine wpAnyF_done (by kernel_rfl) ?_ _
      go_wp2_with fail
      go_meet
      case rel => exact ⟨rfl, rfl, rfl, rfl⟩
      --/R2
  case rest =>
  obtain ⟨rfl, rfl, rfl, hwd⟩ := hcut
  rw [← hwd]
  clear hwd
  have K1 : Hid (Blk w.drew gr 74 (rrc (.slice av l.length cv) t)) := hide_ h.out.drew
  have hU1 : Hid (Upd (fun k => k = gr) w w.drew) := hide_ (Upd.refl _ w).drew
  generalize w.drew = w1 at *
  have c0 := K1.out.cell 0; have c1 := K1.out.cell 1; have c2 := K1.out.cell 2; have c3 := K1.out.cell 3
  have fz := fun i => K1.out.frozen i
  simp [rrc] at c0 c1 c2 c3
  by_cases hr0 : r = 0
  case neg =>
    have hrb : (r != 0) = true := by simpa using hr0
    rw [if_neg hr0] at HV
    obtain ⟨w2, hw2⟩ : ∃ wx, wx = w1.setCell ⟨gr, 2, none⟩ (.int .i64 r) := ⟨_, rfl⟩
    have K2 : Hid (Blk w2 gr 74 [.slice av l.length cv, .int .i64 (t.at_ : Int), .int .i64 r, .int .i64 t.p]) := hide_ (by rw [hw2]; have := K1.out.set 2 (.int .i64 r); simpa [rrc] using this)
    have hU2 : Hid (Upd (fun k => k = gr) w w2) := hide_ (by rw [hw2]; exact hU1.out.set ⟨gr, 2, none⟩ (.int .i64 r) (.inl rfl))
    go_upto_region 6 with fail
    rw [← hw2]
    clear hw2 c0 c1 c2 c3 fz
    have c0 := K2.out.cell 0; have c1 := K2.out.cell 1; have c2 := K2.out.cell 2; have c3 := K2.out.cell 3
    have fz := fun i => K2.out.frozen i
    simp at c0 c1 c2 c3
    have hK3 : Hid (Blk (w2.setCell ⟨gr, 3, none⟩ (.int .i64 ((t.at_ : Int) + u))) gr 74 (rrc (.slice av l.length cv) ⟨t.at_, r, (t.at_ : Int) + u⟩)) := hide_ (by have := K2.out.set 3 (.int .i64 ((t.at_ : Int) + u)); simpa [rrc] using this)
    have hU3 : Hid (Upd (fun k => k = gr) w (w2.setCell ⟨gr, 3, none⟩ (.int .i64 ((t.at_ : Int) + u)))) := hide_ (hU2.out.set ⟨gr, 3, none⟩ _ (.inl rfl))
    have HSm : Hid (Sim ⟨t.at_, r, (t.at_ : Int) + u⟩ (rdV l t er (mayM most)).2) := hide_ (by rw [HV.out]; exact ⟨rfl, fun h => absurd h hr0, fun _ => rfl⟩)
    have HVv : Hid (wrap64 (rdV l t er (mayM most)).1 = 0) := hide_ (by rw [HV.out]; exact w64 0 (by decide))
    clear hr0
    go_wp2
    go_ret
    exact ⟨_, by rw [HVv.out]; rfl, HSm, hK3, hU3⟩
  subst hr0
  rw [if_pos rfl] at HV
  by_cases hmy : n ≤ most
  case neg =>
    have hmy' : most < n := by omega
    have hmf : mayM most n = false := decide_eq_false hmy
    rw [hmf, if_neg (by simp)] at HV
    obtain ⟨w2, hw2⟩ : ∃ wx, wx = w1.setCell ⟨gr, 2, none⟩ (.int .i64 er) := ⟨_, rfl⟩
    have K2 : Hid (Blk w2 gr 74 [.slice av l.length cv, .int .i64 (t.at_ : Int), .int .i64 er, .int .i64 t.p]) := hide_ (by rw [hw2]; have := K1.out.set 2 (.int .i64 er); simpa [rrc] using this)
    have hU2 : Hid (Upd (fun k => k = gr) w w2) := hide_ (by rw [hw2]; exact hU1.out.set ⟨gr, 2, none⟩ (.int .i64 er) (.inl rfl))
    go_upto_region 10 with fail
    rw [← hw2]
    clear hw2 c0 c1 c2 c3 fz
    have c0 := K2.out.cell 0; have c1 := K2.out.cell 1; have c2 := K2.out.cell 2; have c3 := K2.out.cell 3
    have fz := fun i => K2.out.frozen i
    simp at c0 c1 c2 c3
    have hK3 : Hid (Blk (w2.setCell ⟨gr, 3, none⟩ (.int .i64 (t.at_ : Int))) gr 74 (rrc (.slice av l.length cv) ⟨t.at_, er, (t.at_ : Int)⟩)) := hide_ (by have := K2.out.set 3 (.int .i64 (t.at_ : Int)); simpa [rrc] using this)
    have hU3 : Hid (Upd (fun k => k = gr) w (w2.setCell ⟨gr, 3, none⟩ (.int .i64 (t.at_ : Int)))) := hide_ (hU2.out.set ⟨gr, 3, none⟩ _ (.inl rfl))
    have HSm : Hid (Sim ⟨t.at_, er, (t.at_ : Int)⟩ (rdV l t er (mayM most)).2) := hide_ (by rw [HV.out]; exact ⟨rfl, fun h => absurd h her, fun _ => rfl⟩)
    have HVv : Hid (wrap64 (rdV l t er (mayM most)).1 = 0) := hide_ (by rw [HV.out]; exact w64 0 (by decide))
    clear hmy hmf
    go_wp2
    go_ret
    exact ⟨_, by rw [HVv.out]; rfl, HSm, hK3, hU3⟩
  have hmy' : ¬ most < n := by omega
  have hmf : mayM most n = true := decide_eq_true hmy
  rw [hmf, if_pos rfl] at HV
  have hK3 : Hid (Blk (w1.setCell ⟨gr, 1, none⟩ (.int .i64 ((t.at_ : Int) + u))) gr 74 (rrc (.slice av l.length cv) ⟨t.at_ + u, 0, t.p⟩)) := hide_ (by
    have := K1.out.set 1 (.int .i64 ((t.at_ : Int) + u))
    simp only [rrc, List.set_cons_succ, List.set_cons_zero] at this ⊢
    rw [Hhe.out] at this
    simpa using this)
  have hU3 : Hid (Upd (fun k => k = gr) w (w1.setCell ⟨gr, 1, none⟩ (.int .i64 ((t.at_ : Int) + u)))) := hide_ (hU1.out.set ⟨gr, 1, none⟩ _ (.inl rfl))
  have HSm : Hid (Sim ⟨t.at_ + u, 0, t.p⟩ (rdV l t er (mayM most)).2) := hide_ (by rw [HV.out]; exact Sim.refl _)
  have HVv : Hid ((rdV l t er (mayM most)).1 = n) := hide_ (by rw [HV.out])
  clear hmy hmf
  go_wp2
  go_ret
  exact ⟨_, by rw [HVv.out]; rfl, HSm, hK3, hU3⟩
end Go.Proofs.YtjojbfendkodgaaDoor
/- Code: the document's reader: instr. -/
namespace Go.Proofs.YtjojbfendkodgaaDoor
open Go.RowKit
set_option linter.unusedVariables false

theorem mayN_M (n : Int) : mayN n = mayM 2147483648 n := rfl
theorem rdN_M (l : List Int) (s : Rs) : rdN l s = rdV l s 3 (mayM 2147483648) := rfl
theorem rdV_at2 (l : List Int) (s : Rs) (er : Int) (may : Int → Bool) (h : s.at_ ≤ l.length) : (rdV l s er may).2.at_ ≤ l.length := rdV_at l s er may h
theorem rdI_bad {l : List Int} {enc : Bool} {s : Rs} {o : Rs} (h : rdV l s 140 (mayI enc) = (0, o)) : rdI l enc s = (⟨0, 0, 0, 0⟩, o) := by
  unfold rdI
  rw [h]
  rfl
theorem rdI_ok {l : List Int} {enc : Bool} {s : Rs} {n : Int} {o : Rs} (h : rdV l s 140 (mayI enc) = (n, o)) : rdI l enc s = (⟨n, (rd1 l (kin n).1 o).1, (rd1 l (kin n).2.1 (rd1 l (kin n).1 o).2).1, (rd1 l (kin n).2.2 (rd1 l (kin n).2.1 (rd1 l (kin n).1 o).2).2).1⟩, (rd1 l (kin n).2.2 (rd1 l (kin n).2.1 (rd1 l (kin n).1 o).2).2).2) := by
  unfold rdI
  rw [h]
/-- What number and Of together answer. -/
theorem op_cases (l : List Int) (s : Rs) (enc : Bool) (hb : Bys l) (t1 : Rs) (hsim : Sim t1 (rdV l s 140 (mayM 18446744073709551615)).2) :
    ((rdV l s 140 (mayM 18446744073709551615)).2.e ≠ 0 ∧ rdI l enc s = (⟨0, 0, 0, 0⟩, (rdV l s 140 (mayM 18446744073709551615)).2) ∧ wrap64 (rdV l s 140 (mayM 18446744073709551615)).1 = 0) ∨
    ((rdV l s 140 (mayM 18446744073709551615)).2.e = 0 ∧ isOf (wrap64 (rdV l s 140 (mayM 18446744073709551615)).1) enc = false ∧ (rdI l enc s).2.e = 140 ∧ (rdI l enc s).2.p = (s.at_ : Int)) ∨
    ((rdV l s 140 (mayM 18446744073709551615)).2.e = 0 ∧ isOf (wrap64 (rdV l s 140 (mayM 18446744073709551615)).1) enc = true ∧ rdV l s 140 (mayI enc) = (wrap64 (rdV l s 140 (mayM 18446744073709551615)).1, (rdV l s 140 (mayM 18446744073709551615)).2)) := by
  have h0 : wrap64 0 = 0 := w64 0 (by decide)
  by_cases he : s.e = 0
  case neg =>
    left
    have e1 : ∀ m, rdV l s 140 m = (0, s) := fun m => by unfold rdV; rw [if_neg he]
    rw [e1]
    exact ⟨he, rdI_bad (e1 _), h0⟩
  have h64 := get_u64 (getF_R (l.drop s.at_)) (hb.drop s.at_)
  by_cases hg : (getF (l.drop s.at_)).2.2 = 0
  case neg =>
    left
    have e1 : ∀ m, rdV l s 140 m = (0, ⟨s.at_ + (getF (l.drop s.at_)).2.1, (getF (l.drop s.at_)).2.2, (s.at_ + (getF (l.drop s.at_)).2.1 : Nat)⟩) := fun m => by unfold rdV; rw [if_pos he, if_neg hg]
    rw [e1]
    exact ⟨hg, rdI_bad (e1 _), h0⟩
  have e1 : ∀ m, rdV l s 140 m = if m (getF (l.drop s.at_)).1 = true then ((getF (l.drop s.at_)).1, ⟨s.at_ + (getF (l.drop s.at_)).2.1, 0, s.p⟩) else (0, ⟨s.at_ + (getF (l.drop s.at_)).2.1, 140, s.at_⟩) := fun m => by unfold rdV; rw [if_pos he, if_pos hg]
  have eM : rdV l s 140 (mayM 18446744073709551615) = ((getF (l.drop s.at_)).1, ⟨s.at_ + (getF (l.drop s.at_)).2.1, 0, s.p⟩) := by
    rw [e1, if_pos]
    unfold mayM
    rw [decide_eq_true (by omega)]
  rw [eM]
  generalize getF (l.drop s.at_) = G at *
  obtain ⟨n, u, r⟩ := G
  simp only at h64 hg e1 ⊢
  cases hi : isOf (wrap64 n) enc with
  | false =>
    right; left
    have hm : mayI enc n = false := by
      unfold mayI
      by_cases h47 : n ≤ 47
      · rw [w64 n (by omega)] at hi
        rw [hi, Bool.and_false]
      · rw [decide_eq_false h47, Bool.false_and]
    have := rdI_bad (o := ⟨s.at_ + u, 140, s.at_⟩) (l := l) (s := s) (enc := enc) (by rw [e1, if_neg (by rw [hm]; simp)])
    rw [this]
    exact ⟨by first | trivial | rfl, by first | rfl | exact hi, rfl, rfl⟩
  | true =>
    right; right
    have hr := isOf_rng hi
    have hn : wrap64 n = n := by
      by_cases h63 : n ≤ 9223372036854775807
      · exact w64 n (by omega)
      · exfalso
        have : wrap64 n = n - 18446744073709551616 := by unfold wrap64; omega
        omega
    rw [hn] at hi hr ⊢
    have hm : mayI enc n = true := by unfold mayI; rw [decide_eq_true hr.2, hi]; rfl
    exact ⟨by first | trivial | rfl, by first | rfl | exact hi, by rw [e1, if_pos hm]⟩
theorem rdN_val (l : List Int) (s : Rs) (hb : Bys l) : wrap64 (rdV l s 3 (mayM 2147483648)).1 = (rdV l s 3 (mayM 2147483648)).1 ∧ 0 ≤ (rdV l s 3 (mayM 2147483648)).1 ∧ (rdV l s 3 (mayM 2147483648)).1 ≤ 2147483648 := by
  have h64 := get_u64 (getF_R (l.drop s.at_)) (hb.drop s.at_)
  have : 0 ≤ (rdV l s 3 (mayM 2147483648)).1 ∧ (rdV l s 3 (mayM 2147483648)).1 ≤ 2147483648 := by
    unfold rdV
    repeat' split
    all_goals
      first
        | (rename_i h; simp only; unfold mayM at h; have := of_decide_eq_true h; omega)
        | (simp only; omega)
  exact ⟨w64 _ (by omega), this⟩
theorem ltr_iff {op : Int} {enc : Bool} (h : isOf op enc = true) {l0 l1 l2 : UInt8} (hl : ofI op = [l0, l1, l2]) : (l0 = 32 ↔ (kin op).1 = 0) ∧ (l1 = 32 ↔ (kin op).2.1 = 0) ∧ (l2 = 32 ↔ (kin op).2.2 = 0) := by
  have q : ∀ c : UInt8, lts.contains c = true → (c = 32 ↔ ltK (c.toNat : Int) = 0) := by
    intro c hc
    have hm : c ∈ lts := by simpa using hc
    unfold lts at hm
    simp only [List.mem_cons, List.not_mem_nil, or_false] at hm
    rcases hm with rfl | rfl | rfl | rfl | rfl | rfl | rfl | rfl | rfl | rfl | rfl | rfl | rfl | rfl | rfl | rfl | rfl <;> decide
  have k0 := ofI_kat h (j := 0) (by omega)
  have k1 := ofI_kat h (j := 1) (by omega)
  have k2 := ofI_kat h (j := 2) (by omega)
  rw [hl] at k0 k1 k2
  simp only [List.getD_cons_zero, List.getD_cons_succ, kat] at k0 k1 k2
  exact ⟨by rw [q l0 k0.2.1, k0.2.2], by rw [q l1 k1.2.1, k1.2.2], by rw [q l2 k2.2.1, k2.2.2]⟩
/-- What lies in memory. -/
structure RiM (w w' : World) (gr : Nat) (v : Value) (t : Rs) (gf gx : Nat) (sN sL : ByteArray) (x : In) : Prop where
  rd : Blk w' gr 74 (rrc v t)
  rs : Blk w' w.heap.size 28 [.int .i64 0, .int .i64 0, .int .i64 0, .int .i64 0]
  fm : Blk w' gf 68 [.string sN, .string sL]
  ix : Blk w' gx 28 [.int .i64 x.op, .int .i64 x.a, .int .i64 x.b, .int .i64 x.c]
  up : Upd (fun k => k = gr) w w'
  gg : w.heap.size < gx
def RiTo (gr : Nat) (v : Value) (l : List Int) (s : Rs) (enc : Bool) (w : World) (e : Ending) (w' : World) : Prop := ∃ t' x, e = .returned (.agg #[.int .i64 x.op, .int .i64 x.a, .int .i64 x.b, .int .i64 x.c]) ∧ Hid (Sim t' (rdI l enc s).2) ∧ Hid ((rdI l enc s).2.e = 0 → x = (rdI l enc s).1) ∧ Hid (Blk w' gr 74 (rrc v t')) ∧ Hid (Upd (fun k => k = gr) w w')
theorem RiM.read {w w' w'' : World} {gr : Nat} {v : Value} {t t' : Rs} {gf gx : Nat} {sN sL : ByteArray} {x : In} (h : RiM w w' gr v t gf gx sN sL x) (hk : Blk w'' gr 74 (rrc v t')) (hu : Upd (fun k => k = gr) w' w'') : RiM w w'' gr v t' gf gx sN sL x :=
  ⟨hk, h.rs.upd hu (blk_nt h.rs h.rd (by decide)), h.fm.upd hu (blk_nt h.fm h.rd (by decide)), h.ix.upd hu (blk_nt h.ix h.rd (by decide)), h.up.to hu, h.gg⟩
theorem RiM.put {w w' : World} {gr : Nat} {v : Value} {t : Rs} {gf gx : Nat} {sN sL : ByteArray} {x : In} (h : RiM w w' gr v t gf gx sN sL x) (j : Nat) (n : Int) (y : In) (hy : ([.int .i64 x.op, .int .i64 x.a, .int .i64 x.b, .int .i64 x.c] : List Value).set j (.int .i64 n) = [.int .i64 y.op, .int .i64 y.a, .int .i64 y.b, .int .i64 y.c]) : RiM w (w'.setCell ⟨gx, j, none⟩ (.int .i64 n)) gr v t gf gx sN sL y := by
  have hk := h.ix.set j (.int .i64 n)
  rw [hy] at hk
  have hg := h.gg
  exact ⟨h.rd.other _ _ (blk_nt h.rd h.ix (by decide)), h.rs.other _ _ (by show w.heap.size ≠ gx; omega), h.fm.other _ _ (blk_nt h.fm h.ix (by decide)), hk, h.up.set ⟨gx, j, none⟩ _ (.inr (by show w.heap.size ≤ gx; omega)), hg⟩
theorem wrI4 {w : World} {g : Nat} {a b c d : Value} (h : Blk w g 28 [a, b, c, d]) (x y z u : Value) : Blk ((((w.setCell ⟨g, 0, none⟩ x).setCell ⟨g, 1, none⟩ y).setCell ⟨g, 2, none⟩ z).setCell ⟨g, 3, none⟩ u) g 28 [x, y, z, u] := by
  have := (((h.set 0 x).set 1 y).set 2 z).set 3 u
  simpa using this
theorem retI4 {fn : Func} {p : Tmp} (h : fn.results = #[.cell p 28]) {R : Ending → World → Prop} {tmps : Array Value} {g : Nat} {w : World} {x y z u : Value} (hp : tmps.getD p undef = .pointer (some ⟨g, 0, none⟩)) (hK : Blk w g 28 [x, y, z, u]) (hR : R (.returned (.agg #[x, y, z, u])) w) :
    bodyPost Tryd.prog fn R Exit.ret ⟨tmps, []⟩ w :=
  bodyPost_ret (results_cell_row h _ _ _ _ #[x, y, z, u] _ _ hp (show w.heap[g]? = some (.cells #[x, y, z, u] 28 (0, 0)) from hK) Tryd.underlying28 rfl (by show _ = some 4; kernel_rfl)) rfl hR
theorem ri_ret {w w' : World} {gr : Nat} {v : Value} {t : Rs} {gf gx : Nat} {sN sL : ByteArray} {x : In} {l : List Int} {s : Rs} {enc : Bool} {tmps : Array Value} {p : Tmp} (hfn : Tryd.f38.results = #[.cell p 28]) (hp : tmps.getD p undef = .pointer (some ⟨w.heap.size, 0, none⟩)) (h : RiM w w' gr v t gf gx sN sL x) (h1 : Sim t (rdI l enc s).2) (h2 : (rdI l enc s).2.e = 0 → x = (rdI l enc s).1) :
    bodyPost Tryd.prog Tryd.f38 (RiTo gr v l s enc w) Exit.ret ⟨tmps, []⟩ ((((w'.setCell ⟨w.heap.size, 0, none⟩ (.int .i64 x.op)).setCell ⟨w.heap.size, 1, none⟩ (.int .i64 x.a)).setCell ⟨w.heap.size, 2, none⟩ (.int .i64 x.b)).setCell ⟨w.heap.size, 3, none⟩ (.int .i64 x.c)) := by
  refine retI4 hfn hp (wrI4 h.rs _ _ _ _) ?_
  have hr := blk_nt h.rd h.rs (by decide)
  have k1 := (((h.rd.other ⟨w.heap.size, 0, none⟩ (.int .i64 x.op) hr).other ⟨w.heap.size, 1, none⟩ (.int .i64 x.a) hr).other ⟨w.heap.size, 2, none⟩ (.int .i64 x.b) hr).other ⟨w.heap.size, 3, none⟩ (.int .i64 x.c) hr
  have u1 := h.up.set ⟨w.heap.size, 0, none⟩ (.int .i64 x.op) (.inr (Nat.le_refl _))
  have u2 := u1.set ⟨w.heap.size, 1, none⟩ (.int .i64 x.a) (.inr (Nat.le_refl _))
  have u3 := u2.set ⟨w.heap.size, 2, none⟩ (.int .i64 x.b) (.inr (Nat.le_refl _))
  have u4 := u3.set ⟨w.heap.size, 3, none⟩ (.int .i64 x.c) (.inr (Nat.le_refl _))
  exact ⟨t, x, rfl, hide_ h1, hide_ h2, hide_ k1, hide_ u4⟩
set_option maxRecDepth 100000 in
set_option maxHeartbeats 8000000 in
theorem rinstr_any (gr : Nat) (av : Option Addr) (cv : Nat) (l : List Int) (t s : Rs) (enc : Bool) (w : World) (hst : Hid (Sim t s)) (hs : s.at_ ≤ l.length) (hlc : l.length ≤ cv) (hcv : cv ≤ 9223372036854775000) (hnil : av = none → cv = 0) (hby : Hid (Bys l)) (hrow : Hid (Row .u8 w av l)) (hne : Hid (∀ x, av = some x → 0 < l.length → ¬ x.block = gr)) (h : Hid (Blk w gr 74 (rrc (.slice av l.length cv) t))) :
    Calls Tryd.prog 38 #[.pointer (some ⟨gr, 0, none⟩), .bool enc] w (RiTo gr (.slice av l.length cv) l s enc w) := by
  obtain ⟨w1, hw1⟩ : ∃ wx, wx = w.alloc (.cells #[.int .i64 0, .int .i64 0, .int .i64 0, .int .i64 0] 28) := ⟨_, rfl⟩
  have hB1 : Below w.heap.size w w1 := by rw [hw1]; exact below1 _ _
  have k0 : Blk w1 w.heap.size 28 [.int .i64 0, .int .i64 0, .int .i64 0, .int .i64 0] := by rw [hw1]; exact Blk.newA w _ _
  have KR1 := hide_ (h.out.later hB1)
  have K01 := hide_ k0
  have HNm := hide_ (rnumber_any gr av cv l t s 18446744073709551615 140 w1 hst (by decide) hs hlc hcv hnil hby (hide_ (hrow.out.later hB1)) KR1)
  have HU1 : Hid (Upd (fun k => k = gr) w w1) := hide_ (Upd.of_below hB1)
  have c1 := KR1.out.cell 1
  simp [rrc] at c1
  have HTA : Hid (s.e = 0 → t.at_ = s.at_) := hide_ (fun h => by rw [hst.out.ok h])
  have HTN : Hid ((rdV l s 140 (mayM 18446744073709551615)).2.e = 0 → s.e = 0) := hide_ (fun hq => by
    by_cases he : s.e = 0
    · exact he
    · unfold rdV at hq; rw [if_neg he] at hq; exact absurd hq he)
  have hgr : gr < w.heap.size := h.out.lt
  clear hB1 k0
  go_enter Tryd.func38, Tryd.ntmps38
  go_upto_region 1 with fail
  rw [← hw1]
  clear hw1
  go_wp2_with fail
  refine HNm.out.mono ?_
  rintro e w2 ⟨t1, rfl, HS1, KR2, hU2⟩
  have HU2 := hide_ (HU1.out.to hU2.out)
  have K02 := hide_ (K01.out.upd hU2.out (blk_nt K01.out KR1.out (by decide)))
  have hcs := op_cases l s enc hby.out t1 HS1.out
  have hat1 := rdV_at l s 140 (mayM 18446744073709551615) hs
  generalize hO : rdV l s 140 (mayM 18446744073709551615) = O at *
  obtain ⟨n0, s1⟩ := O
  simp only at hcs HS1 HTN hat1
  generalize wrap64 n0 = op at *
  have HOf := hide_ (of_any op enc w2)
  clear c1 hU2 HNm K01 KR1 HU1 hO
  go_wp2_with fail
  refine HOf.out.mono ?_
  rintro e w3 ⟨rfl, hB3⟩
  obtain ⟨w4, hw4⟩ : ∃ wx, wx = w3.alloc (.cells #[.string (ofN op enc), .string (ofL op enc)] 68) := ⟨_, rfl⟩
  have hB4 : Below w3.heap.size w3 w4 := by rw [hw4]; exact below1 _ _
  have KF4 : Hid (Blk w4 w3.heap.size 68 [.string (ofN op enc), .string (ofL op enc)]) := hide_ (by rw [hw4]; exact Blk.newA w3 _ _)
  have KR4 := hide_ (KR2.out.later (below_to hB3 hB4))
  have K04 := hide_ (K02.out.later (below_to hB3 hB4))
  have HU4 := hide_ (HU2.out.then (below_to hB3 hB4))
  obtain ⟨sN, hsN⟩ : ∃ x, ofN op enc = x := ⟨_, rfl⟩
  obtain ⟨sL, hsL⟩ : ∃ x, ofL op enc = x := ⟨_, rfl⟩
  rw [hsN, hsL] at KF4 hw4
  have HsL := hide_ hsL
  clear hB3 hB4 HOf KR2 K02 HU2
  rw [hsN, hsL]
  clear hsN hsL
  go_upto_region 4 with fail
  rw [← hw4]
  clear hw4
  generalize hgf : w3.heap.size = gf at *
  clear hgf
  have c1 := KR4.out.cell 1; have c2 := KR4.out.cell 2; have c3 := KR4.out.cell 3
  have fz := fun i => KR4.out.frozen i
  simp [rrc] at c1 c2 c3
  have HM4 : Hid (∀ gx (wx : World), w4.heap.size ≤ gx → Blk wx gx 28 [.int .i64 op, .int .i64 0, .int .i64 0, .int .i64 0] → Upd (fun k => k = gr) w4 wx → ∀ t', Blk wx gr 74 (rrc (.slice av l.length cv) t') → RiM w wx gr (.slice av l.length cv) t' gf gx sN sL ⟨op, 0, 0, 0⟩) := hide_ (fun gx wx hg hx hu t' ht => ⟨ht, K04.out.upd hu (blk_nt K04.out KR4.out (by decide)), KF4.out.upd hu (blk_nt KF4.out KR4.out (by decide)), hx, HU4.out.to hu, by have := K04.out.lt; omega⟩)
  rcases hcs with ⟨a1, a2, a3⟩ | ⟨a1, a2, a3, a4⟩ | ⟨a1, a2, a3⟩
  · skip
    have hte : t1.e ≠ 0 := by rw [HS1.out.e]; exact a1
    have hb1 : (t1.e == 0) = false := by simpa using hte
    have hb2 : (t1.e != 0) = true := by simpa using hte
    have HS2 : Hid (Sim t1 (rdI l enc s).2) := hide_ (by rw [a2]; exact HS1.out)
    have HN2 : Hid ((rdI l enc s).2.e = 0 → (⟨op, 0, 0, 0⟩ : In) = (rdI l enc s).1) := hide_ (fun hq => by rw [a2] at hq; exact absurd hq a1)
    obtain ⟨w5, hw5⟩ : ∃ wx, wx = w4.alloc (.cells #[.int .i64 op, .int .i64 0, .int .i64 0, .int .i64 0] 28) := ⟨_, rfl⟩
    have hB5 : Below w4.heap.size w4 w5 := by rw [hw5]; exact below1 _ _
    have HR5 := hide_ (HM4.out w4.heap.size w5 (Nat.le_refl _) (by rw [hw5]; exact Blk.newA w4 _ _) (Upd.of_below hB5) t1 (KR4.out.later hB5))
    have d2 := HR5.out.rd.cell 2
    have x0 := HR5.out.ix.cell 0; have x1 := HR5.out.ix.cell 1; have x2 := HR5.out.ix.cell 2; have x3 := HR5.out.ix.cell 3
    have z0 := HR5.out.rs.cell 0; have z1 := HR5.out.rs.cell 1; have z2 := HR5.out.rs.cell 2; have z3 := HR5.out.rs.cell 3
    have zf := fun i => HR5.out.rs.frozen i
    simp [rrc] at d2 x0 x1 x2 x3 z0 z1 z2 z3
    clear hte a1 a2 a3 hB5
    go_upto_region 8 with fail
    rw [← hw5]
    clear hw5 c1 c2 c3 fz
    go_upto_region 9 with fail
    go_wp2_with fail
    exact ri_ret (x := ⟨op, 0, 0, 0⟩) rfl rfl HR5.out HS2.out HN2.out
  · skip
    have hte : t1.e = 0 := by rw [HS1.out.e]; exact a1
    have hb1 : (t1.e == 0) = true := by simpa using hte
    have hat : t.at_ = s.at_ := HTA.out (HTN.out a1)
    have HS2 : Hid (Sim ⟨t1.at_, 140, (t.at_ : Int)⟩ (rdI l enc s).2) := hide_ ⟨a3.symm, fun hq => by rw [a3] at hq; exact absurd hq (by decide), fun _ => by rw [a4, hat]⟩
    have HN2 : Hid ((rdI l enc s).2.e = 0 → (⟨op, 0, 0, 0⟩ : In) = (rdI l enc s).1) := hide_ (fun hq => by rw [a3] at hq; exact absurd hq (by decide))
    obtain ⟨wa, hwa⟩ : ∃ wx, wx = w4.setCell ⟨gr, 2, none⟩ (.int .i64 140) := ⟨_, rfl⟩
    have KRa : Hid (Blk wa gr 74 [.slice av l.length cv, .int .i64 (t1.at_ : Int), .int .i64 140, .int .i64 t1.p]) := hide_ (by rw [hwa]; have := KR4.out.set 2 (.int .i64 140); simpa [rrc] using this)
    have hUa : Upd (fun k => k = gr) w4 wa := by rw [hwa]; exact (Upd.refl (fun k => k = gr) w4).set ⟨gr, 2, none⟩ (.int .i64 140) (.inl rfl)
    obtain ⟨wb, hwb⟩ : ∃ wx, wx = wa.setCell ⟨gr, 3, none⟩ (.int .i64 (t.at_ : Int)) := ⟨_, rfl⟩
    have KRb : Hid (Blk wb gr 74 (rrc (.slice av l.length cv) ⟨t1.at_, 140, (t.at_ : Int)⟩)) := hide_ (by rw [hwb]; have := KRa.out.set 3 (.int .i64 (t.at_ : Int)); simpa [rrc] using this)
    have hUb : Upd (fun k => k = gr) w4 wb := by rw [hwb]; exact hUa.set ⟨gr, 3, none⟩ (.int .i64 (t.at_ : Int)) (.inl rfl)
    obtain ⟨w5, hw5⟩ : ∃ wx, wx = wb.alloc (.cells #[.int .i64 op, .int .i64 0, .int .i64 0, .int .i64 0] 28) := ⟨_, rfl⟩
    have hB5 : Below wb.heap.size wb w5 := by rw [hw5]; exact below1 _ _
    have hsz := hUb.size
    have HR5 := hide_ (HM4.out wb.heap.size w5 hsz (by rw [hw5]; exact Blk.newA wb _ _) (hUb.then hB5) _ (KRb.out.later hB5))
    have e1 := KRa.out.cell 3
    have ef := fun i => KRa.out.frozen i
    have d2 := HR5.out.rd.cell 2
    have x0 := HR5.out.ix.cell 0; have x1 := HR5.out.ix.cell 1; have x2 := HR5.out.ix.cell 2; have x3 := HR5.out.ix.cell 3
    have z0 := HR5.out.rs.cell 0; have z1 := HR5.out.rs.cell 1; have z2 := HR5.out.rs.cell 2; have z3 := HR5.out.rs.cell 3
    have zf := fun i => HR5.out.rs.frozen i
    simp [rrc] at d2 e1 x0 x1 x2 x3 z0 z1 z2 z3
    rw [a2]
    clear hte a1 a2 a3 a4 hB5 hUa hUb hsz hat
    go_upto_region 6 with fail
    rw [← hwa]
    clear hwa c1 c2 c3 fz
    go_upto_region 7 with fail
    rw [← hwb]
    clear hwb e1 ef
    go_upto_region 8 with fail
    rw [← hw5]
    clear hw5
    go_upto_region 9 with fail
    go_wp2_with fail
    exact ri_ret (x := ⟨op, 0, 0, 0⟩) rfl rfl HR5.out HS2.out HN2.out
  · skip
    have hte : t1.e = 0 := by rw [HS1.out.e]; exact a1
    have hb1 : (t1.e == 0) = true := by simpa using hte
    have hb2 : (t1.e != 0) = false := by simpa using hte
    obtain ⟨l0, l1, l2, hl⟩ := three (ofI_kat a2 (j := 0) (by omega)).1
    have hsl : sL = ⟨#[l0, l1, l2]⟩ := by rw [← HsL.out]; unfold ofL; rw [if_pos a2, hl]
    obtain ⟨i0, i1, i2⟩ := ltr_iff a2 hl
    subst hsl
    have HRd := hide_ (rdI_ok a3)
    obtain rfl := HS1.out.ok a1
    have ix0 := ix_s0 l0 l1 l2
    have ix1 := ix_s1 l0 l1 l2
    have ix2 := ix_s2 l0 l1 l2
    obtain ⟨w5, hw5⟩ : ∃ wx, wx = w4.alloc (.cells #[.int .i64 op, .int .i64 0, .int .i64 0, .int .i64 0] 28) := ⟨_, rfl⟩
    have hB5 : Below w4.heap.size w4 w5 := by rw [hw5]; exact below1 _ _
    have HR5 := hide_ (HM4.out w4.heap.size w5 (Nat.le_refl _) (by rw [hw5]; exact Blk.newA w4 _ _) (Upd.of_below hB5) t1 (KR4.out.later hB5))
    have d2 := HR5.out.rd.cell 2
    simp [rrc] at d2
    generalize hgx : w4.heap.size = gx at *
    rw [a2]
    clear hte a1 a2 a3 hB5 hl
    go_upto_region 8 with fail
    rw [← hw5]
    clear hw5 c1 c2 c3 fz hgx
    go_upto_region 10 with fail
    clear d2
    have f1 := HR5.out.fm.cell 1
    simp at f1
    have Hat0 : Hid (t1.at_ ≤ l.length) := hide_ hat1
    go_upto_if 49 with fail
    go_cut [49] from 50 to 53 (fun c wc => ∃ (u0 : Rs) (wf : World), wf = wc ∧ Hid (Sim u0 (rd1 l (kin op).1 t1).2) ∧ Hid (RiM w wf gr (.slice av l.length cv) u0 gf gx sN ⟨#[l0, l1, l2]⟩ (⟨op, (rd1 l (kin op).1 t1).1, 0, 0⟩ : In)))
    case first =>
      by_cases hk : (kin op).1 = 0
      · have hlt : l0 = 32 := i0.2 hk
        have hln : (((l0.toNat : Nat) : Int) != 32) = false := by rw [hlt]; rfl
        have HV : Hid ((rd1 l (kin op).1 t1) = (0, t1)) := hide_ (by unfold rd1; rw [if_pos hk])
        clear hk
        go_wp2_with fail
        go_meet
        case rel => exact ⟨t1, _, rfl, by rw [HV.out]; exact hide_ (Sim.refl t1), by rw [HV.out]; exact HR5⟩
      · have hlt : ¬ l0 = 32 := fun h => hk (i0.1 h)
        have hln : (((l0.toNat : Nat) : Int) != 32) = true := by
          rw [bne_iff_ne]
          intro h
          apply hlt
          have : l0.toNat = 32 := by omega
          exact UInt8.toNat_inj.1 this
        have HV : Hid ((rd1 l (kin op).1 t1) = ((rdV l t1 3 (mayM 2147483648)).1 - 1, (rdV l t1 3 (mayM 2147483648)).2)) := hide_ (by unfold rd1; rw [if_neg hk]; rfl)
        have hval := rdN_val l t1 hby.out
        have HNm := hide_ (rnumber_any gr av cv l t1 t1 2147483648 3 w5 (hide_ (Sim.refl t1)) (by decide) Hat0.out hlc hcv hnil hby (hide_ (Row.updE hrow.out HR5.out.up hne.out)) (hide_ HR5.out.rd))
        clear hk hlt
        go_wp2_with fail
        refine HNm.out.mono ?_
        rintro e wn ⟨tn, rfl, HSn, KRn, hUn⟩
        rw [hval.1]
        have HMn := hide_ (HR5.out.read KRn.out hUn.out)
        have y0 := HMn.out.ix.cell 1
        have yf := fun i => HMn.out.ix.frozen i
        simp at y0
        have HMo := hide_ (HMn.out.put 1 ((rdV l t1 3 (mayM 2147483648)).1 - 1) (⟨op, ((rdV l t1 3 (mayM 2147483648)).1 - 1), 0, 0⟩ : In) rfl)
        generalize (rdV l t1 3 (mayM 2147483648)).1 = vv at *
        clear HNm
        go_wp2_with fail
        go_meet
        case rel => exact ⟨tn, _, rfl, by rw [HV.out]; exact HSn, by rw [HV.out]; exact HMo⟩
    case rest =>
    obtain ⟨u0, wz0, rfl, HSm0, HMz0⟩ := hcut
    clear f1
    go_upto_region 12 with fail
    have f1 := HMz0.out.fm.cell 1
    simp at f1
    have Hat1 : Hid ((rd1 l (kin op).1 t1).2.at_ ≤ l.length) := hide_ (rd1_at l _ _ Hat0.out)
    go_upto_if 57 with fail
    go_cut [57] from 58 to 61 (fun c wc => ∃ (u1 : Rs) (wf : World), wf = wc ∧ Hid (Sim u1 (rd1 l (kin op).2.1 (rd1 l (kin op).1 t1).2).2) ∧ Hid (RiM w wf gr (.slice av l.length cv) u1 gf gx sN ⟨#[l0, l1, l2]⟩ (⟨op, (rd1 l (kin op).1 t1).1, (rd1 l (kin op).2.1 (rd1 l (kin op).1 t1).2).1, 0⟩ : In)))
    case first =>
      by_cases hk : (kin op).2.1 = 0
      · have hlt : l1 = 32 := i1.2 hk
        have hln : (((l1.toNat : Nat) : Int) != 32) = false := by rw [hlt]; rfl
        have HV : Hid ((rd1 l (kin op).2.1 (rd1 l (kin op).1 t1).2) = (0, (rd1 l (kin op).1 t1).2)) := hide_ (by unfold rd1; rw [if_pos hk])
        clear hk
        go_wp2_with fail
        go_meet
        case rel => exact ⟨u0, _, rfl, by rw [HV.out]; exact HSm0, by rw [HV.out]; exact HMz0⟩
      · have hlt : ¬ l1 = 32 := fun h => hk (i1.1 h)
        have hln : (((l1.toNat : Nat) : Int) != 32) = true := by
          rw [bne_iff_ne]
          intro h
          apply hlt
          have : l1.toNat = 32 := by omega
          exact UInt8.toNat_inj.1 this
        have HV : Hid ((rd1 l (kin op).2.1 (rd1 l (kin op).1 t1).2) = ((rdV l (rd1 l (kin op).1 t1).2 3 (mayM 2147483648)).1 - 1, (rdV l (rd1 l (kin op).1 t1).2 3 (mayM 2147483648)).2)) := hide_ (by unfold rd1; rw [if_neg hk]; rfl)
        have hval := rdN_val l (rd1 l (kin op).1 t1).2 hby.out
        have HNm := hide_ (rnumber_any gr av cv l u0 (rd1 l (kin op).1 t1).2 2147483648 3 wz0 (HSm0) (by decide) Hat1.out hlc hcv hnil hby (hide_ (Row.updE hrow.out HMz0.out.up hne.out)) (hide_ HMz0.out.rd))
        clear hk hlt
        go_wp2_with fail
        refine HNm.out.mono ?_
        rintro e wn ⟨tn, rfl, HSn, KRn, hUn⟩
        rw [hval.1]
        have HMn := hide_ (HMz0.out.read KRn.out hUn.out)
        have y0 := HMn.out.ix.cell 2
        have yf := fun i => HMn.out.ix.frozen i
        simp at y0
        have HMo := hide_ (HMn.out.put 2 ((rdV l (rd1 l (kin op).1 t1).2 3 (mayM 2147483648)).1 - 1) (⟨op, (rd1 l (kin op).1 t1).1, ((rdV l (rd1 l (kin op).1 t1).2 3 (mayM 2147483648)).1 - 1), 0⟩ : In) rfl)
        generalize (rdV l (rd1 l (kin op).1 t1).2 3 (mayM 2147483648)).1 = vv at *
        clear HNm
        go_wp2_with fail
        go_meet
        case rel => exact ⟨tn, _, rfl, by rw [HV.out]; exact HSn, by rw [HV.out]; exact HMo⟩
    case rest =>
    obtain ⟨u1, wz1, rfl, HSm1, HMz1⟩ := hcut
    clear f1
    go_upto_region 14 with fail
    have f1 := HMz1.out.fm.cell 1
    simp at f1
    have Hat2 : Hid ((rd1 l (kin op).2.1 (rd1 l (kin op).1 t1).2).2.at_ ≤ l.length) := hide_ (rd1_at l _ _ Hat1.out)
    go_upto_if 65 with fail
    go_cut [65] from 66 to 69 (fun c wc => ∃ (u2 : Rs) (wf : World), wf = wc ∧ Hid (Sim u2 (rd1 l (kin op).2.2 (rd1 l (kin op).2.1 (rd1 l (kin op).1 t1).2).2).2) ∧ Hid (RiM w wf gr (.slice av l.length cv) u2 gf gx sN ⟨#[l0, l1, l2]⟩ (⟨op, (rd1 l (kin op).1 t1).1, (rd1 l (kin op).2.1 (rd1 l (kin op).1 t1).2).1, (rd1 l (kin op).2.2 (rd1 l (kin op).2.1 (rd1 l (kin op).1 t1).2).2).1⟩ : In)))
    case first =>
      by_cases hk : (kin op).2.2 = 0
      · have hlt : l2 = 32 := i2.2 hk
        have hln : (((l2.toNat : Nat) : Int) != 32) = false := by rw [hlt]; rfl
        have HV : Hid ((rd1 l (kin op).2.2 (rd1 l (kin op).2.1 (rd1 l (kin op).1 t1).2).2) = (0, (rd1 l (kin op).2.1 (rd1 l (kin op).1 t1).2).2)) := hide_ (by unfold rd1; rw [if_pos hk])
        clear hk
        go_wp2_with fail
        go_meet
        case rel => exact ⟨u1, _, rfl, by rw [HV.out]; exact HSm1, by rw [HV.out]; exact HMz1⟩
      · have hlt : ¬ l2 = 32 := fun h => hk (i2.1 h)
        have hln : (((l2.toNat : Nat) : Int) != 32) = true := by
          rw [bne_iff_ne]
          intro h
          apply hlt
          have : l2.toNat = 32 := by omega
          exact UInt8.toNat_inj.1 this
        have HV : Hid ((rd1 l (kin op).2.2 (rd1 l (kin op).2.1 (rd1 l (kin op).1 t1).2).2) = ((rdV l (rd1 l (kin op).2.1 (rd1 l (kin op).1 t1).2).2 3 (mayM 2147483648)).1 - 1, (rdV l (rd1 l (kin op).2.1 (rd1 l (kin op).1 t1).2).2 3 (mayM 2147483648)).2)) := hide_ (by unfold rd1; rw [if_neg hk]; rfl)
        have hval := rdN_val l (rd1 l (kin op).2.1 (rd1 l (kin op).1 t1).2).2 hby.out
        have HNm := hide_ (rnumber_any gr av cv l u1 (rd1 l (kin op).2.1 (rd1 l (kin op).1 t1).2).2 2147483648 3 wz1 (HSm1) (by decide) Hat2.out hlc hcv hnil hby (hide_ (Row.updE hrow.out HMz1.out.up hne.out)) (hide_ HMz1.out.rd))
        clear hk hlt
        go_wp2_with fail
        refine HNm.out.mono ?_
        rintro e wn ⟨tn, rfl, HSn, KRn, hUn⟩
        rw [hval.1]
        have HMn := hide_ (HMz1.out.read KRn.out hUn.out)
        have y0 := HMn.out.ix.cell 3
        have yf := fun i => HMn.out.ix.frozen i
        simp at y0
        have HMo := hide_ (HMn.out.put 3 ((rdV l (rd1 l (kin op).2.1 (rd1 l (kin op).1 t1).2).2 3 (mayM 2147483648)).1 - 1) (⟨op, (rd1 l (kin op).1 t1).1, (rd1 l (kin op).2.1 (rd1 l (kin op).1 t1).2).1, ((rdV l (rd1 l (kin op).2.1 (rd1 l (kin op).1 t1).2).2 3 (mayM 2147483648)).1 - 1)⟩ : In) rfl)
        generalize (rdV l (rd1 l (kin op).2.1 (rd1 l (kin op).1 t1).2).2 3 (mayM 2147483648)).1 = vv at *
        clear HNm
        go_wp2_with fail
        go_meet
        case rel => exact ⟨tn, _, rfl, by rw [HV.out]; exact HSn, by rw [HV.out]; exact HMo⟩
    case rest =>
    obtain ⟨u2, wz2, rfl, HSm2, HMz2⟩ := hcut
    clear f1
    go_upto_region 16 with fail
    have x0 := HMz2.out.ix.cell 0; have x1 := HMz2.out.ix.cell 1; have x2 := HMz2.out.ix.cell 2; have x3 := HMz2.out.ix.cell 3
    have z0 := HMz2.out.rs.cell 0; have z1 := HMz2.out.rs.cell 1; have z2 := HMz2.out.rs.cell 2; have z3 := HMz2.out.rs.cell 3
    have zf := fun i => HMz2.out.rs.frozen i
    simp at x0 x1 x2 x3 z0 z1 z2 z3
    have HS2 : Hid (Sim u2 (rdI l enc s).2) := hide_ (by rw [HRd.out]; exact HSm2.out)
    have HN2 : Hid ((rdI l enc s).2.e = 0 → (⟨op, (rd1 l (kin op).1 t1).1, (rd1 l (kin op).2.1 (rd1 l (kin op).1 t1).2).1, (rd1 l (kin op).2.2 (rd1 l (kin op).2.1 (rd1 l (kin op).1 t1).2).2).1⟩ : In) = (rdI l enc s).1) := hide_ (fun _ => by rw [HRd.out])
    go_wp2_with fail
    exact ri_ret (x := ⟨op, (rd1 l (kin op).1 t1).1, (rd1 l (kin op).2.1 (rd1 l (kin op).1 t1).2).1, (rd1 l (kin op).2.2 (rd1 l (kin op).2.1 (rd1 l (kin op).1 t1).2).2).1⟩) rfl rfl HMz2.out HS2.out HN2.out
end Go.Proofs.YtjojbfendkodgaaDoor
/- Code: the document's operands. -/
namespace Go.Proofs.YtjojbfendkodgaaDoor
open Go.RowKit
set_option linter.unusedVariables false

set_option maxRecDepth 100000 in
set_option maxHeartbeats 8000000 in
theorem roperands_any (x : In) (sN : ByteArray) (l0 l1 l2 : UInt8) (k : Int × Int × Int) (h0 : l0 = 32 ↔ k.1 = 0) (h1 : l1 = 32 ↔ k.2.1 = 0) (h2 : l2 = 32 ↔ k.2.2 = 0) (w : World) :
    Calls Tryd.prog 63 #[.agg #[.int .i64 x.op, .int .i64 x.a, .int .i64 x.b, .int .i64 x.c], .agg #[.string sN, .string ⟨#[l0, l1, l2]⟩]] w fun e w' => (∃ v, e = .returned v ∧ Hid (IOwn w' w.heap.size v (nmj k x 3))) ∧ Below w.heap.size w w' := by
  obtain ⟨w1, hw1⟩ : ∃ wx, wx = ((w.alloc (.cells #[.int .i64 x.op, .int .i64 x.a, .int .i64 x.b, .int .i64 x.c] 28)).alloc (.cells #[.string sN, .string ⟨#[l0, l1, l2]⟩] 68)).alloc (.cells #[.int .i64 x.a, .int .i64 x.b, .int .i64 x.c] 3) := ⟨_, rfl⟩
  have hB1 : Below w.heap.size w w1 := by rw [hw1]; exact below3 _ _ _ _
  obtain ⟨kx, kf, kl⟩ := blk3 w #[.int .i64 x.op, .int .i64 x.a, .int .i64 x.b, .int .i64 x.c] #[.string sN, .string ⟨#[l0, l1, l2]⟩] #[.int .i64 x.a, .int .i64 x.b, .int .i64 x.c] 28 68 3
  rw [← hw1] at kx kf kl
  have KF := hide_ kf
  have KL := hide_ kl
  have HB1 := hide_ hB1
  have hsz := kl.lt
  clear hB1 kx kf kl
  have ix0 := ix_s0 l0 l1 l2
  have ix1 := ix_s1 l0 l1 l2
  have ix2 := ix_s2 l0 l1 l2
  have q : ∀ c : UInt8, (((c.toNat : Nat) : Int) != 32) = !decide (c = 32) := fun c => by
    by_cases h : c = 32
    · rw [h]; rfl
    · rw [decide_eq_false h, bne_iff_ne.2]
      · rfl
      · intro e
        exact h (UInt8.toNat_inj.1 (by show c.toNat = 32; omega))
  go_enter Tryd.func63, Tryd.ntmps63
  go_upto_region 3 with fail
  rw [← hw1]
  clear hw1
  go_wp2_with fail
  go_loopw [5, 16] (fun x5 x16 wr => ∃ (v : Value) (j : Nat), v = x5 ∧ j ≤ 3 ∧ x16 = .int .i64 (j : Int) ∧ Hid (IOwn wr w1.heap.size v (nmj k x j)) ∧ Hid (Below w1.heap.size w1 wr)) (fun _ x16 _ => 3 - (intOf x16).toNat)
  case atStart => exact ⟨_, 0, rfl, by omega, rfl, hide_ (IOwn.nil _ _), hide_ (Below.refl _ _)⟩
  case round =>
    obtain ⟨v, j, rfl, hj, rfl, HO, HB⟩ := hrel
    generalize wr = wq at *
    have f1 := (KF.out.later HB.out).cell 1
    have y0 := (KL.out.later HB.out).cell 0; have y1 := (KL.out.later HB.out).cell 1; have y2 := (KL.out.later HB.out).cell 2
    simp at f1 y0 y1 y2
    by_cases hlt : j < 3
    · have h3 : j = 0 ∨ j = 1 ∨ j = 2 := by omega
      have hlen := nmj_len x k j
      rcases h3 with rfl | rfl | rfl
      · by_cases hk : k.1 = 0
        · have hb : (((l0.toNat : Nat) : Int) != 32) = false := by rw [q, decide_eq_true (h0.2 hk)]; rfl
          have HO2 : Hid (IOwn wq w1.heap.size v (nmj k x 1)) := hide_ (by
            have e : nmj k x 1 = nmj k x 0 := by
              show nmj k x 0 ++ (if kat k 0 ≠ 0 then [oat x 0] else []) = nmj k x 0
              rw [if_neg (by show ¬ k.1 ≠ 0; simp [hk]), List.append_nil]
            rw [e]; exact HO.out)
          clear hk q h0 h1 h2
          go_wp2_with fail
          go_roundw
          case rel => exact ⟨v, 1, rfl, by omega, by go_num, HO2, HB⟩
          case measure => simp [intOf]
        · have hb : (((l0.toNat : Nat) : Int) != 32) = true := by rw [q, decide_eq_false (fun e => hk (h0.1 e))]; rfl
          obtain ⟨g, cap, w8, hrun, hO8, hU8, -⟩ := HO.out.push x.a (by omega) HB.out.size
          have hB8 := hU8.below w1.heap.size HB.out.size (fun n hn => (HO.out.lies hn).1)
          have HB8 := hide_ (HB.out.trans hB8)
          have HO8 : Hid (IOwn w8 w1.heap.size (.slice (some ⟨g, 0, none⟩) ((nmj k x 0).length + 1) cap) (nmj k x 1)) := hide_ (by
            have e : nmj k x 1 = nmj k x 0 ++ [x.a] := by
              show nmj k x 0 ++ (if kat k 0 ≠ 0 then [oat x 0] else []) = nmj k x 0 ++ [x.a]
              rw [if_pos (show kat k 0 ≠ 0 from hk)]
              rfl
            rw [e]; exact hO8)
          have HR := hide_ hrun
          generalize (nmj k x 0).length + 1 = ln at *
          clear hk q h0 h1 h2 hrun hO8 hU8 hB8 hlen
          go_wp2_with (at_builtin; have _t := HR; refine wpList_append_run rfl (.tmp 26) (.tmp 28) 24 24 rfl rfl rfl HR.out ?_; clear HR)
          go_roundw
          case rel => exact ⟨_, 1, rfl, by omega, by go_num, HO8, HB8⟩
          case measure => simp [intOf]
      · by_cases hk : k.2.1 = 0
        · have hb : (((l1.toNat : Nat) : Int) != 32) = false := by rw [q, decide_eq_true (h1.2 hk)]; rfl
          have HO2 : Hid (IOwn wq w1.heap.size v (nmj k x 2)) := hide_ (by
            have e : nmj k x 2 = nmj k x 1 := by
              show nmj k x 1 ++ (if kat k 1 ≠ 0 then [oat x 1] else []) = nmj k x 1
              rw [if_neg (by show ¬ k.2.1 ≠ 0; simp [hk]), List.append_nil]
            rw [e]; exact HO.out)
          clear hk q h0 h1 h2
          go_wp2_with fail
          go_roundw
          case rel => exact ⟨v, 2, rfl, by omega, by go_num, HO2, HB⟩
          case measure => simp [intOf]
        · have hb : (((l1.toNat : Nat) : Int) != 32) = true := by rw [q, decide_eq_false (fun e => hk (h1.1 e))]; rfl
          obtain ⟨g, cap, w8, hrun, hO8, hU8, -⟩ := HO.out.push x.b (by omega) HB.out.size
          have hB8 := hU8.below w1.heap.size HB.out.size (fun n hn => (HO.out.lies hn).1)
          have HB8 := hide_ (HB.out.trans hB8)
          have HO8 : Hid (IOwn w8 w1.heap.size (.slice (some ⟨g, 0, none⟩) ((nmj k x 1).length + 1) cap) (nmj k x 2)) := hide_ (by
            have e : nmj k x 2 = nmj k x 1 ++ [x.b] := by
              show nmj k x 1 ++ (if kat k 1 ≠ 0 then [oat x 1] else []) = nmj k x 1 ++ [x.b]
              rw [if_pos (show kat k 1 ≠ 0 from hk)]
              rfl
            rw [e]; exact hO8)
          have HR := hide_ hrun
          generalize (nmj k x 1).length + 1 = ln at *
          clear hk q h0 h1 h2 hrun hO8 hU8 hB8 hlen
          go_wp2_with (at_builtin; have _t := HR; refine wpList_append_run rfl (.tmp 26) (.tmp 28) 24 24 rfl rfl rfl HR.out ?_; clear HR)
          go_roundw
          case rel => exact ⟨_, 2, rfl, by omega, by go_num, HO8, HB8⟩
          case measure => simp [intOf]
      · by_cases hk : k.2.2 = 0
        · have hb : (((l2.toNat : Nat) : Int) != 32) = false := by rw [q, decide_eq_true (h2.2 hk)]; rfl
          have HO2 : Hid (IOwn wq w1.heap.size v (nmj k x 3)) := hide_ (by
            have e : nmj k x 3 = nmj k x 2 := by
              show nmj k x 2 ++ (if kat k 2 ≠ 0 then [oat x 2] else []) = nmj k x 2
              rw [if_neg (by show ¬ k.2.2 ≠ 0; simp [hk]), List.append_nil]
            rw [e]; exact HO.out)
          clear hk q h0 h1 h2
          go_wp2_with fail
          go_roundw
          case rel => exact ⟨v, 3, rfl, by omega, by go_num, HO2, HB⟩
          case measure => simp [intOf]
        · have hb : (((l2.toNat : Nat) : Int) != 32) = true := by rw [q, decide_eq_false (fun e => hk (h2.1 e))]; rfl
          obtain ⟨g, cap, w8, hrun, hO8, hU8, -⟩ := HO.out.push x.c (by omega) HB.out.size
          have hB8 := hU8.below w1.heap.size HB.out.size (fun n hn => (HO.out.lies hn).1)
          have HB8 := hide_ (HB.out.trans hB8)
          have HO8 : Hid (IOwn w8 w1.heap.size (.slice (some ⟨g, 0, none⟩) ((nmj k x 2).length + 1) cap) (nmj k x 3)) := hide_ (by
            have e : nmj k x 3 = nmj k x 2 ++ [x.c] := by
              show nmj k x 2 ++ (if kat k 2 ≠ 0 then [oat x 2] else []) = nmj k x 2 ++ [x.c]
              rw [if_pos (show kat k 2 ≠ 0 from hk)]
              rfl
            rw [e]; exact hO8)
          have HR := hide_ hrun
          generalize (nmj k x 2).length + 1 = ln at *
          clear hk q h0 h1 h2 hrun hO8 hU8 hB8 hlen
          go_wp2_with (at_builtin; have _t := HR; refine wpList_append_run rfl (.tmp 26) (.tmp 28) 24 24 rfl rfl rfl HR.out ?_; clear HR)
          go_roundw
          case rel => exact ⟨_, 3, rfl, by omega, by go_num, HO8, HB8⟩
          case measure => simp [intOf]
    · obtain rfl : j = 3 := by omega
      have HO9 : Hid (IOwn wq w.heap.size v (nmj k x 3)) := hide_ (own_base HO.out (by have := HB1.out.size; exact this))
      go_wp2
      go_ret
      exact ⟨⟨v, rfl, HO9⟩, below_to HB1.out HB.out⟩
end Go.Proofs.YtjojbfendkodgaaDoor
/- Code, plain: what is decoded is encoded to the same bytes. -/
namespace Go.Proofs.YtjojbfendkodgaaDoor
open Go.RowKit
set_option linter.unusedVariables false

theorem rdV_back {l : List Int} (hb : Bys l) {s : Rs} {er : Int} {may : Int → Bool} (her : er ≠ 0) (h : (rdV l s er may).2.e = 0) : s.e = 0 ∧ 0 ≤ (rdV l s er may).1 ∧ may (rdV l s er may).1 = true ∧ l.drop s.at_ = form (rdV l s er may).1.toNat ++ l.drop (rdV l s er may).2.at_ := by
  unfold rdV at h ⊢
  by_cases h0 : s.e = 0
  · rw [if_pos h0] at h ⊢
    by_cases h1 : (getF (l.drop s.at_)).2.2 = 0
    · rw [if_pos h1] at h ⊢
      by_cases h2 : may (getF (l.drop s.at_)).1 = true
      · rw [if_pos h2] at h ⊢
        obtain ⟨b1, b2, b3, b4, b5⟩ := get_back (getF_R (l.drop s.at_)) (hb.drop _) h1
        refine ⟨h0, b3, h2, ?_⟩
        simp only
        rw [b5, ← List.drop_drop, List.take_append_drop]
      · rw [if_neg h2] at h
        exact absurd h her
    · rw [if_neg h1] at h
      exact absurd h h1
  · rw [if_neg h0] at h
    exact absurd h h0
theorem rdO_back {l : List Int} {s : Rs} {lo hi : Int} (hs : s.at_ ≤ l.length) (h : (rdO l s lo hi).2.e = 0) : s.e = 0 ∧ lo ≤ (rdO l s lo hi).1 ∧ (rdO l s lo hi).1 ≤ hi ∧ l.drop s.at_ = (rdO l s lo hi).1 :: l.drop (rdO l s lo hi).2.at_ ∧ (rdO l s lo hi).2.at_ ≤ l.length := by
  unfold rdO at h ⊢
  by_cases h0 : s.e = 0
  · rw [if_pos h0] at h ⊢
    by_cases h1 : s.at_ = l.length
    · rw [if_pos h1] at h
      exact absurd h (by simp)
    · rw [if_neg h1] at h ⊢
      by_cases h2 : l.getD s.at_ 0 < lo ∨ hi < l.getD s.at_ 0
      · rw [if_pos h2] at h
        exact absurd h (by simp)
      · rw [if_neg h2] at h ⊢
        refine ⟨h0, ?_, ?_, drop_cons l s.at_ (by omega), ?_⟩
        · simp only; omega
        · simp only; omega
        · simp only; omega
  · rw [if_neg h0] at h
    exact absurd h h0
theorem rd1_back {l : List Int} (hb : Bys l) {k : Int} {s : Rs} (h : (rd1 l k s).2.e = 0) : s.e = 0 ∧ l.drop s.at_ = (if k ≠ 0 then opB (rd1 l k s).1 else []) ++ l.drop (rd1 l k s).2.at_ := by
  unfold rd1 at h ⊢
  by_cases hk : k = 0
  · rw [if_pos hk] at h ⊢
    rw [if_neg (by simp [hk])]
    exact ⟨h, rfl⟩
  · rw [if_neg hk] at h ⊢
    rw [if_pos hk]
    obtain ⟨h1, h2, h3, h4⟩ := rdV_back hb (er := 3) (may := mayN) (by decide) h
    refine ⟨h1, ?_⟩
    unfold opB
    simp only
    have e : (rdN l s).1 - 1 + 1 = (rdN l s).1 := by omega
    rw [e]
    exact h4
theorem insB_eq (x : In) : insB x = form x.op.toNat ++ ((if (kin x.op).1 ≠ 0 then opB x.a else []) ++ ((if (kin x.op).2.1 ≠ 0 then opB x.b else []) ++ (if (kin x.op).2.2 ≠ 0 then opB x.c else []))) := by
  unfold insB nmd
  generalize kin x.op = k
  obtain ⟨k0, k1, k2⟩ := k
  simp only [nmj, kat, oat, List.nil_append]
  have e : ∀ (c : Prop) [Decidable c] (a : Int), (if c then [a] else ([] : List Int)).flatMap opB = if c then opB a else [] := fun c _ a => by split <;> simp
  rw [List.flatMap_append, List.flatMap_append, e, e, e, List.append_assoc]
theorem rdI_back {l : List Int} (hb : Bys l) {enc : Bool} {s : Rs} (h : (rdI l enc s).2.e = 0) : s.e = 0 ∧ l.drop s.at_ = insB (rdI l enc s).1 ++ l.drop (rdI l enc s).2.at_ := by
  rw [insB_eq]
  unfold rdI at h ⊢
  simp only at h ⊢
  obtain ⟨c1, c2⟩ := rd1_back hb h
  obtain ⟨b1, b2⟩ := rd1_back hb c1
  obtain ⟨a1, a2⟩ := rd1_back hb b1
  obtain ⟨o1, o2, o3, o4⟩ := rdV_back hb (by decide) a1
  refine ⟨o1, ?_⟩
  rw [List.append_assoc, List.append_assoc, List.append_assoc, ← c2, ← b2, ← a2, ← o4]
theorem rdM_back {α : Type} {l : List Int} {f : Rs → α × Rs} {g : α → List Int} (hf : ∀ s, (f s).2.e = 0 → s.e = 0 ∧ l.drop s.at_ = g (f s).1 ++ l.drop (f s).2.at_) : ∀ (n : Nat) (s : Rs), (rdM f n s).2.2.e = 0 → s.e = 0 ∧ (rdM f n s).2.1.length = n ∧ l.drop s.at_ = (rdM f n s).2.1.flatMap g ++ l.drop (rdM f n s).2.2.at_
  | 0, s, h => ⟨h, rfl, rfl⟩
  | n + 1, s, h => by
    by_cases h0 : s.e = 0
    · rw [rdM, if_pos h0] at h ⊢
      simp only at h ⊢
      obtain ⟨r1, r2, r3⟩ := rdM_back hf n (f s).2 h
      obtain ⟨f1, f2⟩ := hf s r1
      refine ⟨h0, by rw [List.length_cons, r2], ?_⟩
      rw [List.flatMap_cons, List.append_assoc, ← r3, ← f2]
    · rw [rdM_stop f (n + 1) s h0] at h
      exact absurd h h0
theorem pgm_back {l : List Int} (hb : Bys l) (h : (pgm l).s.e = 0) : encP (pgm l).enc (pgm l).C (pgm l).E = l := by
  unfold pgm at h ⊢
  simp only at h ⊢
  generalize ho1 : rdO l ⟨0, 0, 0⟩ 109 109 = o1 at h ⊢
  generalize ho2 : rdO l o1.2 0 1 = o2 at h ⊢
  generalize hn : rdV l o2.2 4 mayC = n at h ⊢
  generalize hes : rdM (rdN l) n.1.toNat n.2 = es at h ⊢
  generalize hm : rdV l es.2.2 4 mayC = m at h ⊢
  generalize hcs : rdM (rdI l (o2.1 == 1)) m.1.toNat m.2 = cs at h ⊢
  have hend : cs.2.2.e = 0 ∧ ¬ cs.2.2.at_ < l.length := by
    by_cases hl : cs.2.2.at_ < l.length
    · rw [if_pos hl] at h
      unfold rfs at h
      by_cases he : cs.2.2.e = 0
      · rw [if_pos he] at h; exact absurd h (by simp)
      · rw [if_neg he] at h; exact absurd h he
    · rw [if_neg hl] at h; exact ⟨h, hl⟩
  obtain ⟨he, hl⟩ := hend
  obtain ⟨c1, c2, c3⟩ := rdM_back (l := l) (g := insB) (fun s hs => rdI_back hb hs) m.1.toNat m.2 (by rw [hcs]; exact he)
  rw [hcs] at c2 c3
  obtain ⟨m1, m2, m3, m4⟩ := rdV_back hb (s := es.2.2) (er := 4) (may := mayC) (by decide) (by rw [hm]; exact c1)
  rw [hm] at m2 m3 m4
  obtain ⟨e1, e2, e3⟩ := rdM_back (l := l) (f := rdN l) (g := entB) (fun s hs => by
    obtain ⟨q1, q2, q3, q4⟩ := rdV_back hb (er := 3) (may := mayN) (by decide) hs
    exact ⟨q1, q4⟩) n.1.toNat n.2 (by rw [hes]; exact m1)
  rw [hes] at e2 e3
  obtain ⟨n1, n2, n3, n4⟩ := rdV_back hb (s := o2.2) (er := 4) (may := mayC) (by decide) (by rw [hn]; exact e1)
  rw [hn] at n2 n3 n4
  have k1 : o1.2.e = 0 ∧ o1.2.at_ ≤ l.length := by
    have q : o2.2.e = 0 := n1
    by_cases hq : o1.2.e = 0
    · have := rdO_back (l := l) (s := ⟨0, 0, 0⟩) (lo := 109) (hi := 109) (Nat.zero_le _) (by rw [ho1]; exact hq)
      rw [ho1] at this
      exact ⟨hq, this.2.2.2.2⟩
    · rw [← ho2] at q
      unfold rdO at q
      rw [if_neg hq] at q
      exact absurd q hq
  obtain ⟨p1, p2, p3, p4, p5⟩ := rdO_back (l := l) (s := o1.2) (lo := 0) (hi := 1) k1.2 (by rw [ho2]; exact n1)
  rw [ho2] at p2 p3 p4
  obtain ⟨t1, t2, t3, t4, t5⟩ := rdO_back (l := l) (s := ⟨0, 0, 0⟩) (lo := 109) (hi := 109) (Nat.zero_le _) (by rw [ho1]; exact k1.1)
  rw [ho1] at t2 t3 t4
  have e109 : o1.1 = 109 := by omega
  have ebit : (if (o2.1 == 1) = true then (1 : Int) else 0) = o2.1 := by
    have : o2.1 = 0 ∨ o2.1 = 1 := by omega
    rcases this with h | h <;> rw [h] <;> rfl
  unfold encP
  rw [ebit, e2, c2]
  have hd : l.drop cs.2.2.at_ = [] := List.drop_eq_nil_of_le (by omega)
  rw [hd, List.append_nil] at c3
  have t4' : l = o1.1 :: l.drop o1.2.at_ := t4
  conv => rhs; rw [t4', e109, p4, n4, e3, m4, c3]
  simp [List.append_assoc]
/-- What is decoded is encoded to the same bytes. -/
theorem enc_dec {l : List Int} (hb : Bys l) (h : (decF l).1 = 0) : encP (decE l) (decC l) (decN l) = l := by
  have hp : (pgm l).s.e = 0 := by
    by_cases hq : (pgm l).s.e = 0
    · exact hq
    · unfold decF at h
      rw [if_pos hq] at h
      exact absurd h hq
  unfold decE decC decN
  rw [if_pos h, if_pos h, if_pos h]
  exact pgm_back hb hp
end Go.Proofs.YtjojbfendkodgaaDoor
/- Code, plain: bytes that are cut are short, at the cut; bytes with more behind have a tail, at the end. -/
namespace Go.Proofs.YtjojbfendkodgaaDoor
open Go.RowKit
set_option linter.unusedVariables false

/-- The reader stands ahead of the front of these bytes, not of all. -/
structure CutAt (l : List Int) (s : Rs) (r : List Int) : Prop where
  e : s.e = 0
  p : s.p = 0
  d : ∃ k, l.drop s.at_ = r.take k ∧ k < r.length ∧ s.at_ + k = l.length
/-- The bytes were short. -/
def Sh (l : List Int) (s : Rs) : Prop := s.e = 20 ∧ s.p = l.length
theorem Sh.ne {l : List Int} {s : Rs} (h : Sh l s) : s.e ≠ 0 := by rw [h.1]; decide
theorem Sh.rdV {l : List Int} {s : Rs} (h : Sh l s) (er : Int) (may : Int → Bool) : Sh l (rdV l s er may).2 := by
  unfold Go.Proofs.YtjojbfendkodgaaDoor.rdV
  rw [if_neg h.ne]
  exact h
theorem Sh.rdO {l : List Int} {s : Rs} (h : Sh l s) (lo hi : Int) : Sh l (rdO l s lo hi).2 := by
  unfold Go.Proofs.YtjojbfendkodgaaDoor.rdO
  rw [if_neg h.ne]
  exact h
theorem Sh.rd1 {l : List Int} {s : Rs} (h : Sh l s) (k : Int) : Sh l (rd1 l k s).2 := by
  unfold Go.Proofs.YtjojbfendkodgaaDoor.rd1
  split
  · exact h
  · exact h.rdV 3 mayN
theorem Sh.rdM {α : Type} {l : List Int} {s : Rs} (h : Sh l s) (f : Rs → α × Rs) (n : Nat) : Sh l (rdM f n s).2.2 := by
  rw [rdM_stop f n s h.ne]
  exact h
theorem CutAt.num {l : List Int} {s : Rs} {r : List Int} {n : Nat} (h : CutAt l s (form n ++ r)) (hn : n < 18446744073709551616) {er : Int} {may : Int → Bool} (hm : may (n : Int) = true) : (∃ s', rdV l s er may = ((n : Int), s') ∧ CutAt l s' r) ∨ Sh l (rdV l s er may).2 := by
  obtain ⟨k, d1, d2, d3⟩ := h.d
  rw [List.length_append] at d2
  by_cases hk : (form n).length ≤ k
  · left
    have d4 : l.drop s.at_ = form n ++ r.take (k - (form n).length) := by
      rw [d1, List.take_append, List.take_of_length_le hk]
    refine ⟨⟨s.at_ + (form n).length, 0, s.p⟩, ?_, rfl, h.p, k - (form n).length, ?_, by omega, ?_⟩
    · unfold rdV
      rw [if_pos h.e, d4, (get_form n hn _).getF]
      simp only
      rw [if_pos trivial, if_pos hm]
    · show l.drop (s.at_ + (form n).length) = _
      rw [← List.drop_drop, d4]
      simp
    · show s.at_ + (form n).length + (k - (form n).length) = l.length
      omega
  · right
    have d4 : l.drop s.at_ = (form n).take k := by
      rw [d1, List.take_append_of_le_length (by omega)]
    unfold rdV
    rw [if_pos h.e, d4, (get_cut n hn k (by omega)).getF]
    simp only
    rw [if_neg (by decide)]
    exact ⟨rfl, by simp only; rw [d3]⟩
theorem CutAt.byte {l : List Int} {s : Rs} {r : List Int} {c : Int} (h : CutAt l s (c :: r)) {lo hi : Int} (h1 : lo ≤ c) (h2 : c ≤ hi) : (∃ s', rdO l s lo hi = (c, s') ∧ CutAt l s' r) ∨ Sh l (rdO l s lo hi).2 := by
  obtain ⟨k, d1, d2, d3⟩ := h.d
  cases k with
  | zero =>
    right
    unfold rdO
    rw [if_pos h.e, if_pos (by omega)]
    exact ⟨rfl, by simp only; congr 1⟩
  | succ k =>
    left
    rw [List.take_succ_cons] at d1
    have hlt : s.at_ < l.length := by omega
    have hc := drop_cons l s.at_ hlt
    rw [d1] at hc
    injection hc with hg hd
    rw [List.length_cons] at d2
    refine ⟨⟨s.at_ + 1, 0, s.p⟩, ?_, rfl, h.p, k, hd.symm, by omega, ?_⟩
    · unfold rdO
      rw [if_pos h.e, if_neg (by omega), ← hg, if_neg (by omega)]
    · show s.at_ + 1 + k = l.length
      omega
theorem CutAt.ents {l r : List Int} : ∀ (E : List Int) (s : Rs), (∀ e ∈ E, 0 ≤ e ∧ e ≤ 2147483648) → CutAt l s (E.flatMap entB ++ r) → CutAt l (rdM (rdN l) E.length s).2.2 r ∨ Sh l (rdM (rdN l) E.length s).2.2
  | [], s, _, h => Or.inl (by simpa [rdM] using h)
  | e :: E, s, hE, h => by
    obtain ⟨h0, h1⟩ := hE e (by simp)
    obtain ⟨n, rfl⟩ := Int.eq_ofNat_of_zero_le h0
    have h' : CutAt l s (form n ++ (E.flatMap entB ++ r)) := by
      have := h
      rw [List.flatMap_cons, List.append_assoc] at this
      exact this
    rw [List.length_cons, rdM, if_pos h.e]
    simp only
    rcases h'.num (er := 3) (may := mayN) (by omega) (decide_eq_true (by omega)) with ⟨s1, e1, a1⟩ | hs
    · have e3 : rdN l s = ((n : Int), s1) := e1
      rw [e3]
      exact CutAt.ents E s1 (fun x hx => hE x (by simp [hx])) a1
    · exact Or.inr (Sh.rdM hs _ _)
theorem CutAt.op {l r : List Int} {s : Rs} {k a : Int} (ha : -1 ≤ a ∧ a ≤ 16777216) (h : CutAt l s ((if k ≠ 0 then opB a else []) ++ r)) : CutAt l (rd1 l k s).2 r ∨ Sh l (rd1 l k s).2 := by
  by_cases hk : k = 0
  · rw [if_neg (by simp [hk])] at h
    unfold rd1
    rw [if_pos hk]
    exact Or.inl (by simpa using h)
  · rw [if_pos hk] at h
    obtain ⟨m, hm⟩ := Int.eq_ofNat_of_zero_le (show 0 ≤ a + 1 by omega)
    have h' : CutAt l s (form m ++ r) := by
      have := h
      unfold opB at this
      rw [hm] at this
      exact this
    unfold rd1
    rw [if_neg hk]
    simp only
    rcases h'.num (er := 3) (may := mayN) (by omega) (decide_eq_true (by omega)) with ⟨s1, e1, a1⟩ | hs
    · have e3 : rdN l s = ((m : Int), s1) := e1
      rw [e3]
      exact Or.inl a1
    · exact Or.inr hs
theorem CutAt.ins {l r : List Int} {s : Rs} {enc : Bool} {nc ne : Int} {x : In} (h1 : nc ≤ 1048576) (h2 : ne ≤ 1048576) (hx : frmX enc nc ne x = true) (h : CutAt l s (insB x ++ r)) : CutAt l (rdI l enc s).2 r ∨ Sh l (rdI l enc s).2 := by
  have hin := frmX_inB h1 h2 hx
  obtain ⟨p0, p1, p2, p3⟩ := frmX_parts hx
  obtain ⟨n, hn⟩ := Int.eq_ofNat_of_zero_le (show 0 ≤ x.op by have := hin.op; omega)
  have hn47 : n ≤ 47 := by have := hin.op; omega
  rw [insB_eq, hn, Int.toNat_natCast, List.append_assoc, List.append_assoc, List.append_assoc] at h
  have hmay : mayI enc (n : Int) = true := by unfold mayI; rw [decide_eq_true (by omega), ← hn, p0]; rfl
  have q := hin.nm
  unfold rdI
  simp only
  rcases h.num (er := 140) (may := mayI enc) (by omega) hmay with ⟨s1, e1, a1⟩ | hs
  · rw [e1]
    simp only
    rcases CutAt.op (q 0 (by omega)) a1 with a2 | hs
    · rcases CutAt.op (q 1 (by omega)) a2 with a3 | hs
      · exact CutAt.op (q 2 (by omega)) a3
      · exact Or.inr (hs.rd1 _)
    · exact Or.inr ((hs.rd1 _).rd1 _)
  · exact Or.inr (((hs.rd1 _).rd1 _).rd1 _)
theorem CutAt.code {l r : List Int} {enc : Bool} {nc ne : Int} (h1 : nc ≤ 1048576) (h2 : ne ≤ 1048576) : ∀ (C : List In) (s : Rs), (∀ x ∈ C, frmX enc nc ne x = true) → CutAt l s (C.flatMap insB ++ r) → CutAt l (rdM (rdI l enc) C.length s).2.2 r ∨ Sh l (rdM (rdI l enc) C.length s).2.2
  | [], s, _, h => Or.inl (by simpa [rdM] using h)
  | x :: C, s, hC, h => by
    have h' : CutAt l s (insB x ++ (C.flatMap insB ++ r)) := by
      have := h
      rw [List.flatMap_cons, List.append_assoc] at this
      exact this
    rw [List.length_cons, rdM, if_pos h.e]
    simp only
    rcases h'.ins h1 h2 (hC x (by simp)) with a1 | hs
    · exact CutAt.code h1 h2 C _ (fun y hy => hC y (by simp [hy])) a1
    · exact Or.inr (Sh.rdM hs _ _)
theorem Chk.ents {enc : Bool} {C : List In} {E : List Int} (h : Chk enc C E) : ∀ e ∈ E, 0 ≤ e ∧ e ≤ 2147483648 := by
  intro e he
  have := h.nc
  obtain ⟨i, hi, rfl⟩ := List.mem_iff_getElem.1 he
  have := h.ent i hi
  rw [List.getD, List.getElem?_eq_getElem hi, Option.getD_some] at this
  omega
theorem Chk.frms {enc : Bool} {C : List In} {E : List Int} (h : Chk enc C E) : ∀ x ∈ C, frmX enc C.length E.length x = true := by
  intro x hx
  obtain ⟨i, hi, rfl⟩ := List.mem_iff_getElem.1 hx
  have := h.code i hi
  unfold frm at this
  rw [List.getElem?_eq_getElem hi] at this
  simp only [Bool.and_eq_true] at this
  exact this.1
/-- Cut anywhere it is short, at the cut. -/
theorem dec_cut {enc : Bool} {C : List In} {E : List Int} (h : Chk enc C E) {i : Nat} (hi : i < (encP enc C E).length) : decF ((encP enc C E).take i) = (20, (i : Int)) := by
  have hnc := h.nc
  have hne := h.ne
  obtain ⟨l, hl⟩ : ∃ l, (encP enc C E).take i = l := ⟨_, rfl⟩
  have hll : l.length = i := by rw [← hl, List.length_take]; omega
  rw [hl]
  have a0 : CutAt l ⟨0, 0, 0⟩ (109 :: (if enc then 1 else 0) :: (form E.length ++ (E.flatMap entB ++ (form C.length ++ (C.flatMap insB ++ []))))) := by
    have e : (109 :: (if enc then 1 else 0) :: (form E.length ++ (E.flatMap entB ++ (form C.length ++ (C.flatMap insB ++ []))))) = encP enc C E := by
      unfold encP
      simp [List.append_assoc]
    rw [e]
    exact ⟨rfl, rfl, i, by rw [← hl]; rfl, hi, by simp only; omega⟩
  have hb : (((if enc = true then (1 : Int) else 0)) == 1) = enc := by cases enc <;> rfl
  have hs : Sh l (pgm l).s := by
    suffices hcs : Sh l (rdM (rdI l ((rdO l (rdO l ⟨0, 0, 0⟩ 109 109).2 0 1).1 == 1)) (rdV l (rdM (rdN l) (rdV l (rdO l (rdO l ⟨0, 0, 0⟩ 109 109).2 0 1).2 4 mayC).1.toNat (rdV l (rdO l (rdO l ⟨0, 0, 0⟩ 109 109).2 0 1).2 4 mayC).2).2.2 4 mayC).1.toNat (rdV l (rdM (rdN l) (rdV l (rdO l (rdO l ⟨0, 0, 0⟩ 109 109).2 0 1).2 4 mayC).1.toNat (rdV l (rdO l (rdO l ⟨0, 0, 0⟩ 109 109).2 0 1).2 4 mayC).2).2.2 4 mayC).2).2.2 by
      unfold pgm
      simp only
      split
      · unfold rfs
        rw [if_neg hcs.ne]
        exact hcs
      · exact hcs
    rcases a0.byte (lo := 109) (hi := 109) (by omega) (by omega) with ⟨s1, e1, a1⟩ | hs
    · rw [e1]
      simp only
      rcases a1.byte (lo := 0) (hi := 1) (by split <;> omega) (by split <;> omega) with ⟨s2, e2, a2⟩ | hs
      · rw [e2]
        simp only [hb]
        rcases a2.num (er := 4) (may := mayC) (by omega) (decide_eq_true (by omega)) with ⟨s3, e3, a3⟩ | hs
        · rw [e3]
          simp only [Int.toNat_natCast]
          rcases CutAt.ents E s3 h.ents a3 with a4 | hs
          · rcases a4.num (er := 4) (may := mayC) (by omega) (decide_eq_true (by omega)) with ⟨s5, e5, a5⟩ | hs
            · rw [e5]
              simp only [Int.toNat_natCast]
              rcases CutAt.code (enc := enc) (nc := C.length) (ne := E.length) (by omega) (by omega) C s5 h.frms a5 with a6 | hs
              · obtain ⟨k, _, hk, _⟩ := a6.d
                exact absurd hk (by simp)
              · exact hs
            · exact Sh.rdM hs _ _
          · exact Sh.rdM (hs.rdV _ _) _ _
        · exact Sh.rdM ((Sh.rdM hs _ _).rdV _ _) _ _
      · exact Sh.rdM ((Sh.rdM (hs.rdV _ _) _ _).rdV _ _) _ _
    · exact Sh.rdM ((Sh.rdM ((hs.rdO _ _).rdV _ _) _ _).rdV _ _) _ _
  unfold decF
  rw [if_pos hs.ne, hs.1, hs.2, hll]
/-- With bytes behind there is a tail, at the end. -/
theorem dec_tail {enc : Bool} {C : List In} {E : List Int} (h : Chk enc C E) {more : List Int} (hm : more ≠ []) : decF (encP enc C E ++ more) = (124, ((encP enc C E).length : Int)) := by
  have hnc := h.nc
  have hne := h.ne
  have hml : 0 < more.length := List.length_pos_iff.2 hm
  obtain ⟨l, hl⟩ : ∃ l, encP enc C E ++ more = l := ⟨_, rfl⟩
  have hll : l.length = (encP enc C E).length + more.length := by rw [← hl, List.length_append]
  rw [hl]
  have a0 : At l ⟨0, 0, 0⟩ (109 :: (if enc then 1 else 0) :: (form E.length ++ (E.flatMap entB ++ (form C.length ++ (C.flatMap insB ++ more))))) := ⟨rfl, rfl, by
    show l.drop 0 = _
    rw [← hl]
    unfold encP
    simp [List.append_assoc]⟩
  obtain ⟨s1, e1, a1⟩ := a0.byte (lo := 109) (hi := 109) (by omega) (by omega)
  obtain ⟨s2, e2, a2⟩ := a1.byte (lo := 0) (hi := 1) (by split <;> omega) (by split <;> omega)
  obtain ⟨s3, e3, a3⟩ := a2.num (er := 4) (may := mayC) (by omega) (decide_eq_true (by omega))
  obtain ⟨ea, s4, e4, a4⟩ := At.ents E s3 h.ents a3
  obtain ⟨s5, e5, a5⟩ := a4.num (er := 4) (may := mayC) (by omega) (decide_eq_true (by omega))
  obtain ⟨ca, s6, e6, a6⟩ := At.code (enc := enc) (nc := C.length) (ne := E.length) (by omega) (by omega) C s5 h.frms a5
  have h6 := congrArg List.length a6.d
  rw [List.length_drop] at h6
  have hat : s6.at_ = (encP enc C E).length := by omega
  have hb : (((if enc = true then (1 : Int) else 0)) == 1) = enc := by cases enc <;> rfl
  have hs : (pgm l).s = ⟨s6.at_, 124, s6.at_⟩ := by
    unfold pgm
    simp only [e1, e2, e3, e4, e5, hb, e6, Int.toNat_natCast]
    rw [if_pos (by omega)]
    unfold rfs
    rw [if_pos a6.e]
  unfold decF
  rw [hs]
  simp only
  rw [if_pos (by decide), hat]
end Go.Proofs.YtjojbfendkodgaaDoor
/- Code: programs that are made, as the outright statements use them. -/
namespace Go.Proofs.YtjojbfendkodgaaDoor
open Go.RowKit
set_option linter.unusedVariables false

theorem elU8 : Elem Tryd.prog 34 5 .u8 1 := ⟨Tryd.underlying34, Tryd.underlying5, by kernel_rfl⟩
theorem fbys {α : Type} {f : α → List Int} {l : List α} (h : ∀ x, Bys (f x)) : Bys (l.flatMap f) := fun x hx => by
  obtain ⟨a, _, ha⟩ := List.mem_flatMap.1 hx
  exact h a x ha
theorem encB_bys (enc : Bool) (C : List In) (E : List Int) : Bys (encP enc C E) := by
  unfold encP
  refine (((((?_ : Bys [109, if enc then 1 else 0]).append (form_bys _)).append (fbys (fun x => form_bys _))).append (form_bys _)).append (fbys (fun x => ?_)))
  · intro x hx
    cases enc <;> simp at hx <;> omega
  · unfold insB
    exact (form_bys _).append (fbys (fun n => form_bys _))
/-- A program of the call's own that has its form. -/
structure PrO (w : World) (B : Nat) (enc : Bool) (gC cC gE cE : Nat) (C : List In) (E : List Int) : Prop where
  c : COwn w B (.slice (some ⟨gC, 0, none⟩) C.length cC) C
  e : IOwn w B (.slice (some ⟨gE, 0, none⟩) E.length cE) E
  k : Chk enc C E
  c0 : 0 < C.length
  e0 : 0 < E.length
section
variable {w w' : World} {B : Nat} {enc : Bool} {gC cC gE cE : Nat} {C : List In} {E : List Int}
theorem PrO.later (h : PrO w B enc gC cC gE cE C E) (hB : Below w.heap.size w w') : PrO w' B enc gC cC gE cE C E := ⟨h.c.later hB, h.e.later hB, h.k, h.c0, h.e0⟩
theorem PrO.upd {S : Nat → Prop} {g : Nat} {ys : List Value} (h : PrO w B enc gC cC gE cE C E) (hb : Blk w g 26 ys) (hu : Upd (fun k => k = g) w w') : PrO w' B enc gC cC gE cE C E :=
  ⟨ownS_upd h.c hu (fun k e hk => by subst hk; exact notC h.c hb (by decide) e), h.e.upd hu (fun k e hk => by subst hk; exact notI h.e hb (by decide) e), h.k, h.c0, h.e0⟩
theorem PrO.crow (h : PrO w B enc gC cC gE cE C E) : IRow w (some ⟨gC, 0, none⟩) C ∧ C.length ≤ cC ∧ cC ≤ 9223372036854775807 := by
  obtain ⟨a, c, e1, e2, -, e3⟩ := h.c.row
  injection e1 with e4 _ e5
  subst e4 e5
  have := COwn.cap h.c
  unfold maxLen at this
  exact ⟨e3, e2, by omega⟩
theorem PrO.erow (h : PrO w B enc gC cC gE cE C E) : Row .i64 w (some ⟨gE, 0, none⟩) E ∧ E.length ≤ cE := by
  obtain ⟨a, c, e1, e2, -, e3⟩ := h.e.row
  injection e1 with e4 _ e5
  subst e4 e5
  exact ⟨e2, e3⟩
theorem PrO.encode (h : PrO w B enc gC cC gE cE C E) : Calls Tryd.prog 12 #[.agg #[.bool enc, .slice (some ⟨gC, 0, none⟩) C.length cC, .slice (some ⟨gE, 0, none⟩) E.length cE]] w fun e w' => (∃ v, e = .returned (.tuple #[v, .agg #[.int .i64 0, .int .i64 0]]) ∧ Hid (BOwn w' w.heap.size v (encP enc C E))) ∧ Below w.heap.size w w' := by
  obtain ⟨r1, r2, r3⟩ := h.crow
  obtain ⟨s1, s2⟩ := h.erow
  have k := h.k
  have k1 := k.nc; have k2 := k.ne
  have q := encode_any enc (some ⟨gC, 0, none⟩) (some ⟨gE, 0, none⟩) cC cE C E w r2 r3 (by omega) s2 (by omega) (hide_ r1) (hide_ s1)
  unfold encA at q
  rw [if_pos (chk_ok.2 k), chk_ok.2 k] at q
  exact q
end
theorem made_open {enc : Bool} {most : Nat} {w w' : World} {e : Ending} (h : MadeTo enc most w e w') : ∃ gC cC gE cE C E, e = .returned (.agg #[.bool enc, .slice (some ⟨gC, 0, none⟩) C.length cC, .slice (some ⟨gE, 0, none⟩) E.length cE]) ∧ PrO w' w.heap.size enc gC cC gE cE C E ∧ C.length ≤ most + 1 ∧ Below w.heap.size w w' := by
  obtain ⟨vC, vE, C, E, rfl, hk, h0, hm, hE, hoC, hoE, hB⟩ := h
  obtain ⟨gC, cC, yC, rfl, -⟩ := ownS_blk hoC h0
  obtain ⟨gE, cE, yE, rfl, -⟩ := ownS_blk hoE hE
  exact ⟨gC, cC, gE, cE, C, E, rfl, ⟨hoC, hoE, hk, h0, hE⟩, hm, hB⟩
/-- Bytes of the call's own, that are not none. -/
theorem bown_open {w : World} {B : Nat} {v : Value} {l : List Int} (h : BOwn w B v l) (h0 : 0 < l.length) : ∃ g c, v = .slice (some ⟨g, 0, none⟩) l.length c ∧ Row .u8 w (some ⟨g, 0, none⟩) l ∧ l.length ≤ c ∧ c ≤ 9223372036854775807 ∧ B ≤ g ∧ g < w.heap.size := by
  obtain ⟨a, c, rfl, h1, h2, h3, h4, h5⟩ := own_open h rfl
  obtain ⟨g, rfl, a1, a2, -, -⟩ := h5 h0
  exact ⟨g, c, rfl, h1, h3, by unfold maxLen at h4; omega, a1, a2⟩
theorem encP_pos (enc : Bool) (C : List In) (E : List Int) : 2 ≤ (encP enc C E).length := by unfold encP; simp
theorem chk_lim {enc : Bool} {C : List In} {E : List Int} (h : Chk enc C E) : (encP enc C E).length ≤ 60000000 := by
  have a := ent_len E (fun i hi => by have := h.ent i hi; have := h.nc; omega) E.length (Nat.le_refl _)
  have b := code_len C (fun i x hx => h.inB hx) C.length (Nat.le_refl _)
  rw [List.take_length] at a b
  have c := form_ten E.length (by have := h.ne; omega)
  have d := form_ten C.length (by have := h.nc; omega)
  have := h.nc; have := h.ne
  unfold encP
  simp only [List.length_append, List.length_cons, List.length_nil]
  omega
theorem dec_chk {l : List Int} (h : (decF l).1 = 0) : Chk (decE l) (decC l) (decN l) := by
  have hp : (pgm l).s.e = 0 := by
    by_cases hq : (pgm l).s.e = 0
    · exact hq
    · unfold decF at h
      rw [if_pos hq] at h
      exact absurd h hq
  have hc : (chk (pgm l).enc (pgm l).C (pgm l).E).1 = 0 := by
    by_cases hq : (chk (pgm l).enc (pgm l).C (pgm l).E).1 = 0
    · exact hq
    · unfold decF at h
      rw [if_neg (by omega), if_neg hq] at h
      split at h
      · cases h
      · exact absurd h hq
  unfold decE decC decN
  rw [if_pos h, if_pos h, if_pos h]
  exact chk_ok.1 (chk_zero hc)
theorem dec_none {l : List Int} (h : (decF l).1 ≠ 0) : decE l = false ∧ decC l = [] ∧ decN l = [] := by
  unfold decE decC decN
  rw [if_neg h, if_neg h, if_neg h]
  exact ⟨rfl, rfl, rfl⟩
end Go.Proofs.YtjojbfendkodgaaDoor
/- Code: the document's laid: the bytes, and where each entry and instruction begins. -/
namespace Go.Proofs.YtjojbfendkodgaaDoor
open Go.RowKit
set_option linter.unusedVariables false

/-- Where each begins. -/
def posL {α : Type} (f : α → List Int) : Nat → List α → List Int
  | _, [] => []
  | a, x :: r => (a : Int) :: posL f (a + (f x).length) r
theorem posL_snoc {α : Type} (f : α → List Int) : ∀ (l : List α) (a : Nat) (x : α), posL f a (l ++ [x]) = posL f a l ++ [((a + (l.flatMap f).length : Nat) : Int)]
  | [], a, x => by simp [posL]
  | y :: l, a, x => by
    rw [List.cons_append, posL, posL_snoc f l, posL, List.flatMap_cons, List.length_append, List.cons_append, Nat.add_assoc]
theorem posL_len {α : Type} (f : α → List Int) : ∀ (l : List α) (a : Nat), (posL f a l).length = l.length
  | [], a => rfl
  | y :: l, a => by rw [posL, List.length_cons, posL_len f l, List.length_cons]
/-- An instruction that was read. -/
structure OkI (enc : Bool) (x : In) : Prop where
  of : isOf x.op enc = true
  nm : ∀ n ∈ nmd x, -1 ≤ n ∧ n ≤ 2147483648
theorem OkI.len {enc : Bool} {x : In} (h : OkI enc x) : (insB x).length ≤ 40 := by
  have r := isOf_rng h.of
  have a := form_ten x.op.toNat (by omega)
  have b := flat_len (f := opB) (nmd x) (fun n hn => form_ten _ (by have := h.nm n hn; omega))
  have c := nmj_len x (kin x.op) 3
  unfold insB
  unfold nmd at b ⊢
  rw [List.length_append]
  omega
theorem flat_take_len {α : Type} {f : α → List Int} {m : Nat} : ∀ (l : List α), (∀ x ∈ l, (f x).length ≤ m) → (l.flatMap f).length ≤ m * l.length
  | [], _ => by simp
  | x :: l, h => by
    have a := h x (by simp)
    have b := flat_take_len l (fun y hy => h y (by simp [hy]))
    rw [List.flatMap_cons, List.length_append, List.length_cons, Nat.mul_add]
    omega
/-- What lies in memory. -/
structure LdM (w w' : World) (enc : Bool) (pc pe vB vE vC : Value) (b e c : List Int) : Prop where
  p : Blk w' w.heap.size 26 [.bool enc, pc, pe]
  B : BOwn w' w.heap.size vB b
  E : IOwn w' w.heap.size vE e
  C : IOwn w' w.heap.size vC c
  ap : ∀ k, vE.ownBlock = some k → ¬ vC.ownBlock = some k
  bl : Below w.heap.size w w'
section
variable {w w' w'' : World} {enc : Bool} {pc pe vB vE vC : Value} {b e c : List Int}
theorem LdM.later (h : LdM w w' enc pc pe vB vE vC b e c) (hB : Below w'.heap.size w' w'') : LdM w w'' enc pc pe vB vE vC b e c :=
  ⟨h.p.later hB, h.B.later hB, h.E.later hB, h.C.later hB, h.ap, below_to h.bl hB⟩
theorem notB {w : World} {B g : Nat} {u : Value} {l : List Int} {t : TypeId} {ys : List Value} (h : BOwn w B u l) (hb : Blk w g t ys) (ht : t ≠ 5) : ¬ u.ownBlock = some g := fun e => by
  obtain ⟨zs, hz⟩ := ownS_type h e
  exact ht (blk_type hb hz)
theorem LdM.pushE (h : LdM w w' enc pc pe vB vE vC b e c) (x : Int) (hl : e.length ≤ 1048576) : ∃ g cap w'', (Builtin.append_ #[24, 24] 24 #[vE, .slice (some ⟨w'.heap.size, 0, none⟩) 1 1]).run Tryd.prog (w'.alloc (.cells #[.int .i64 x] 3)) = .ok (.slice (some ⟨g, 0, none⟩) (e.length + 1) cap) w'' ∧ LdM w w'' enc pc pe vB (.slice (some ⟨g, 0, none⟩) (e.length + 1) cap) vC b (e ++ [x]) c := by
  obtain ⟨g, cap, w'', h1, h2, h3, h4⟩ := h.E.push x (by omega) h.bl.size
  refine ⟨g, cap, w'', h1, h.p.upd h3 (fun q => notI h.E h.p (by decide) q), ownS_upd h.B h3 (fun k q hk => ?_), h2, h.C.upd h3 (fun k q hk => h.ap k hk q), fun k q hk => ?_, h.bl.trans (h3.below _ h.bl.size (fun k hk => (h.E.lies hk).1))⟩
  · obtain ⟨zs, hz⟩ := ownS_type h.E hk
    exact notB h.B hz (by decide) q
  · have hg : g = k := by simpa [Value.ownBlock] using q
    subst hg
    rcases h4 with h4 | h4
    · exact h.ap _ h4 hk
    · have := (h.C.lies hk).2; omega
theorem LdM.pushC (h : LdM w w' enc pc pe vB vE vC b e c) (x : Int) (hl : c.length ≤ 1048576) : ∃ g cap w'', (Builtin.append_ #[24, 24] 24 #[vC, .slice (some ⟨w'.heap.size, 0, none⟩) 1 1]).run Tryd.prog (w'.alloc (.cells #[.int .i64 x] 3)) = .ok (.slice (some ⟨g, 0, none⟩) (c.length + 1) cap) w'' ∧ LdM w w'' enc pc pe vB vE (.slice (some ⟨g, 0, none⟩) (c.length + 1) cap) b e (c ++ [x]) := by
  obtain ⟨g, cap, w'', h1, h2, h3, h4⟩ := h.C.push x (by omega) h.bl.size
  refine ⟨g, cap, w'', h1, h.p.upd h3 (fun q => notI h.C h.p (by decide) q), ownS_upd h.B h3 (fun k q hk => ?_), h.E.upd h3 (fun k q hk => h.ap k q hk), h2, fun k q hk => ?_, h.bl.trans (h3.below _ h.bl.size (fun k hk => (h.C.lies hk).1))⟩
  · obtain ⟨zs, hz⟩ := ownS_type h.C hk
    exact notB h.B hz (by decide) q
  · have hg : g = k := by simpa [Value.ownBlock] using hk
    subst hg
    rcases h4 with h4 | h4
    · exact h.ap _ q h4
    · have := (h.E.lies q).2; omega
theorem LdM.app (h : LdM w w' enc pc pe vB vE vC b e c) (a : Option Addr) (cap : Nat) (r : List Int) (hrow : Row .u8 w' a r) (hnil : a = none → cap = 0) (hl : b.length + r.length ≤ 1000000000) : ∃ v w'', (Builtin.append_ #[34, 34] 34 #[vB, .slice a r.length cap]).run Tryd.prog w' = .ok v w'' ∧ LdM w w'' enc pc pe v vE vC (b ++ r) e c ∧ ∀ B' u l, IOwn w' B' u l → IOwn w'' B' u l := by
  obtain ⟨v, w'', h1, h2, h3⟩ := run_app elU8 w' 34 w.heap.size vB b.length b h.B a r.length cap r rfl hrow hnil (by unfold maxLen; omega) (by omega) h.bl.size
  have hu : Upd (fun k => vB.ownBlock = some k) w' w'' := (Upd.refl _ w').grown h3 (fun k hk => .inl hk)
  have hI : ∀ B' u l, IOwn w' B' u l → IOwn w'' B' u l := fun B' u l hi => hi.upd hu (fun k q hk => by
    obtain ⟨zs, hz⟩ := ownS_type hi q
    exact notB h.B hz (by decide) hk)
  refine ⟨v, w'', h1, ⟨h.p.upd hu (fun q => notB h.B h.p (by decide) q), ?_, hI _ _ _ h.E, hI _ _ _ h.C, h.ap, h.bl.trans (hu.below _ h.bl.size (fun k hk => (World.ownsRow.lt h.B k hk).1))⟩, hI⟩
  · unfold BOwn
    rw [List.length_append]
    exact h2
end
def p0L (E : List Int) : Nat := 2 + (form E.length).length
def p1L (C : List In) (E : List Int) : Nat := p0L E + (E.flatMap entB).length + (form C.length).length
def preL (enc : Bool) (E : List Int) : List Int := [109, if enc then 1 else 0] ++ form E.length
def LdTo (enc : Bool) (C : List In) (E : List Int) (w : World) (e : Ending) (w' : World) : Prop := ∃ vB vE vC, e = .returned (.tuple #[vB, vE, vC]) ∧ Hid (BOwn w' w.heap.size vB (encP enc C E)) ∧ Hid (IOwn w' w.heap.size vE (posL entB (p0L E) E)) ∧ Hid (IOwn w' w.heap.size vC (posL insB (p1L C E) C)) ∧ Below w.heap.size w w'
set_option maxRecDepth 100000 in
set_option maxHeartbeats 8000000 in
theorem laid_any (enc : Bool) (ac ae : Option Addr) (cc ce : Nat) (C : List In) (E : List Int) (w : World) (hCl : C.length ≤ 1048576) (hEl : E.length ≤ 1048576) (hE : Hid (∀ n ∈ E, 0 ≤ n ∧ n ≤ 2147483648)) (hC : Hid (∀ x ∈ C, OkI enc x)) (hr : Hid (IRow w ac C)) (he : Hid (Row .i64 w ae E)) :
    Calls Tryd.prog 39 #[.agg #[.bool enc, .slice ac C.length cc, .slice ae E.length ce]] w (LdTo enc C E w) := by
  obtain ⟨w1, hw1⟩ : ∃ wx, wx = (w.alloc (.cells #[.bool enc, .slice ac C.length cc, .slice ae E.length ce] 26)).alloc (.cells #[.int .u8 109, .int .u8 0] 5) := ⟨_, rfl⟩
  have hB1 : Below w.heap.size w w1 := by rw [hw1]; exact below2 _ _ _
  obtain ⟨kp, kb⟩ := blk2 w #[.bool enc, .slice ac C.length cc, .slice ae E.length ce] #[.int .u8 109, .int .u8 0] 26 5
  rw [← hw1] at kp kb
  have KP := hide_ kp
  have KB := hide_ kb
  have HB1 := hide_ hB1
  have p0 := kp.cell 0
  have b1 := kb.cell 1
  have bf := fun i => kb.frozen i
  simp at p0 b1
  have HPut := hide_ (fun (n : Nat) w' (hn : n < 18446744073709551616) => rput_any n w' hn)
  clear hB1 kp kb
  go_enter Tryd.func39, Tryd.ntmps39
  go_upto_region 2 with fail
  rw [← hw1]
  clear hw1
  go_upto_if 16 with fail
  go_cut [5] from 17 to 18 (fun x5 wc => ∃ wf, wf = wc ∧ x5 = .slice (some ⟨w.heap.size + 1, 0, none⟩) 2 2 ∧ Hid (LdM w wf enc (.slice ac C.length cc) (.slice ae E.length ce) (.slice (some ⟨w.heap.size + 1, 0, none⟩) 2 2) (.slice none 0 0) (.slice none 0 0) [109, if enc then 1 else 0] [] []))
  case first =>
    cases enc with
    | false =>
      have HL : Hid (LdM w w1 false (.slice ac C.length cc) (.slice ae E.length ce) (.slice (some ⟨w.heap.size + 1, 0, none⟩) 2 2) (.slice none 0 0) (.slice none 0 0) [109, 0] [] []) := hide_ ⟨KP.out, ownS_of_blk (B := w.heap.size) (n := 2) (c := 1) (cap := 2) (ys := cellsL .u8 [109, 0]) KB.out (by omega) rfl (by omega) (by unfold maxLen; omega), IOwn.nil _ _, IOwn.nil _ _, fun k q => by simp [Value.ownBlock] at q, HB1.out⟩
      go_wp2_with fail
      go_meet
      case rel => exact ⟨_, rfl, rfl, HL⟩
    | true =>
      obtain ⟨w2, hw2⟩ : ∃ wx, wx = w1.setCell ⟨w.heap.size + 1, 1, none⟩ (.int .u8 1) := ⟨_, rfl⟩
      have KB2 : Blk w2 (w.heap.size + 1) 5 (cellsL .u8 [109, 1]) := by rw [hw2]; have := KB.out.set 1 (.int .u8 1); simpa [cellsL] using this
      have KP2 : Blk w2 w.heap.size 26 [.bool true, .slice ac C.length cc, .slice ae E.length ce] := by rw [hw2]; exact KP.out.other _ _ (by show w.heap.size ≠ w.heap.size + 1; omega)
      have HB2 : Below w.heap.size w w2 := by rw [hw2]; exact below_set HB1.out _ _ _ (by omega)
      have HL : Hid (LdM w w2 true (.slice ac C.length cc) (.slice ae E.length ce) (.slice (some ⟨w.heap.size + 1, 0, none⟩) 2 2) (.slice none 0 0) (.slice none 0 0) [109, 1] [] []) := hide_ ⟨KP2, ownS_of_blk (B := w.heap.size) (n := 2) (c := 1) (cap := 2) KB2 (by omega) rfl (by omega) (by unfold maxLen; omega), IOwn.nil _ _, IOwn.nil _ _, fun k q => by simp [Value.ownBlock] at q, HB2⟩
      clear KB2 KP2 HB2
      go_wp2_with fail
      rw [← hw2]
      go_meet
      case rel => exact ⟨_, rfl, rfl, HL⟩
  case rest =>
  obtain ⟨w2, rfl, rfl, HL2⟩ := hcut
  clear p0 b1 bf KP KB HB1
  have p2 := HL2.out.p.cell 2
  simp at p2
  have hcE : IntKind.u64.wrap (E.length : Int) = (E.length : Int) := by rw [IntKind.wrap_u64]; omega
  have hcE2 : ((E.length : Int) % 18446744073709551616) = (E.length : Int) := by omega
  have hf10 := form_ten E.length (by omega)
  go_upto_region 6 with (first
    | (go_at_call 62; refine (HPut.out E.length _ (by omega)).mono ?_; rintro e w3 ⟨g3, c3, rfl, HR3, hB3⟩; obtain ⟨vB, w4, hrun, hL4, -⟩ := (HL2.out.later hB3).app _ c3 _ HR3.out (fun h => by cases h) (by simp; omega); (have HRn := hide_ hrun); (have HL4 := hide_ hL4); clear hrun hL4 hB3 HR3)
    | (at_builtin; have _t := HRn; refine wpList_append_run rfl (.tmp 19) (.tmp 24) 34 34 rfl rfl rfl HRn.out ?_; clear HRn))
  have HL5 : Hid (LdM w w4 enc (.slice ac C.length cc) (.slice ae E.length ce) vB (.slice none 0 0) (.slice none 0 0) (preL enc E ++ (E.take 0).flatMap entB) (posL entB (p0L E) (E.take 0)) []) := hide_ (by have := HL4.out; simpa [preL, posL] using this)
  clear HL4 HL2 p2 hcE hcE2
  go_wp2_with fail
  go_loopw [5, 6, 8] (fun x5 x6 x8 wr => ∃ (vB vE : Value) (i : Nat), vB = x5 ∧ vE = x6 ∧ i ≤ E.length ∧ x8 = .int .i64 (i : Int) ∧ Hid (LdM w wr enc (.slice ac C.length cc) (.slice ae E.length ce) vB vE (.slice none 0 0) (preL enc E ++ (E.take i).flatMap entB) (posL entB (p0L E) (E.take i)) [])) (fun _ _ x8 _ => E.length - (intOf x8).toNat)
  case atStart => exact ⟨vB, _, 0, rfl, rfl, Nat.zero_le _, rfl, HL5⟩
  case round =>
    obtain ⟨vB, vE, i, rfl, rfl, hi, rfl, HLi⟩ := hrel
    generalize wr = wq at *
    clear HL5
    have p2 := HLi.out.p.cell 2; have p1 := HLi.out.p.cell 1
    simp at p1 p2
    by_cases hlt : i < E.length
    · have hlt' : (i : Int) < E.length := by omega
      have hx : E[i]? = some (E[i]'hlt) := List.getElem?_eq_getElem hlt
      have hrg := hE.out _ (List.getElem_mem hlt)
      have HT := hide_ (take_flat (f := entB) hx)
      have HPs : Hid (posL entB (p0L E) (E.take (i + 1)) = posL entB (p0L E) (E.take i) ++ [((p0L E + ((E.take i).flatMap entB).length : Nat) : Int)]) := hide_ (by rw [List.take_add_one, hx]; exact posL_snoc entB (E.take i) (p0L E) _)
      have hgd : E.getD i 0 = E[i]'hlt := by rw [List.getD, hx]; rfl
      obtain ⟨n, hn⟩ := Int.eq_ofNat_of_zero_le hrg.1
      have HEn : Hid (entB (E[i]'hlt) = form n) := hide_ (by unfold entB; rw [hn]; rfl)
      have hbl : (preL enc E ++ (E.take i).flatMap entB).length = p0L E + ((E.take i).flatMap entB).length := by unfold preL p0L; simp; omega
      have hbl2 : ((E.take i).flatMap entB).length ≤ 10 * 1048576 := by
        have := flat_take_len (f := entB) (m := 10) (E.take i) (fun y hy => form_ten _ (by have := hE.out y (List.mem_of_mem_take hy); omega))
        rw [List.length_take] at this
        omega
      have hp0 : p0L E ≤ 12 := by unfold p0L; omega
      have hfn := form_ten n (by omega)
      obtain ⟨aB, cB, hvB, -⟩ := HLi.out.B.row
      subst hvB
      obtain ⟨g, cap, w5, hrunE, hL5⟩ := HLi.out.pushE ((preL enc E ++ (E.take i).flatMap entB).length : Int) (by rw [posL_len, List.length_take]; omega)
      have HRn := hide_ hrunE
      have HL5 := hide_ hL5
      obtain ⟨b, off, rfl, -, hcs⟩ := (he.out.later hL5.bl).open (by omega)
      have hc := hcs i hlt
      rw [hgd, hn] at hc
      have q2 := hL5.p.cell 2
      simp at q2
      have hLb : (preL enc E ++ (E.take i).flatMap entB).length ≤ 100000000 := by omega
      have HPl := hide_ hbl
      generalize hbb : preL enc E ++ (E.take i).flatMap entB = bb at *
      have HBb := hide_ hbb
      clear hrunE hL5 hcs hx hgd hbl hbl2 hbb
      generalize E[i]'hlt = ei at *
      generalize posL entB (p0L E) (E.take i) = ps at *
      have hcv : IntKind.u64.wrap ((n : Nat) : Int) = ((n : Nat) : Int) := by rw [IntKind.wrap_u64]; omega
      have HA : Hid (∀ w', Below w5.heap.size w5 w' → ∀ (g3 c3 : Nat), Row .u8 w' (some ⟨g3, 0, none⟩) (form n) → ∃ v w'', (Builtin.append_ #[34, 34] 34 #[.slice aB bb.length cB, .slice (some ⟨g3, 0, none⟩) (form n).length c3]).run Tryd.prog w' = .ok v w'' ∧ LdM w w'' enc (.slice ac C.length cc) (.slice (some ⟨b, off, none⟩) E.length ce) v (.slice (some ⟨g, 0, none⟩) (ps.length + 1) cap) (.slice none 0 0) (preL enc E ++ (E.take (i + 1)).flatMap entB) (posL entB (p0L E) (E.take (i + 1))) []) := hide_ (fun w' hb g3 c3 hr3 => by
        obtain ⟨v, w'', h1, h2, -⟩ := (HL5.out.later hb).app (some ⟨g3, 0, none⟩) c3 (form n) hr3 (fun h => by cases h) (by omega)
        refine ⟨v, w'', h1, ?_⟩
        rw [HPs.out, HT.out, HEn.out, ← List.append_assoc, HBb.out, ← HPl.out]
        exact h2)
      go_wp2_with (first
        | (at_builtin; have _t := HRn; refine wpList_append_run rfl (.tmp 33) (.tmp 36) 24 24 rfl rfl rfl HRn.out ?_; clear HRn p1 p2)
        | (go_at_call 62; refine (HPut.out n _ (by omega)).mono ?_; rintro e w3 ⟨g3, c3, rfl, HR3, hB3⟩; obtain ⟨vn, w6, hrun6, hL6⟩ := HA.out w3 hB3 g3 c3 HR3.out; (have HR6 := hide_ hrun6); (have HL6 := hide_ hL6); clear hrun6 hL6 hB3 HR3)
        | (at_builtin; have _t := HR6; refine wpList_append_run rfl (.tmp 38) (.tmp 45) 34 34 rfl rfl rfl HR6.out ?_; clear HR6))
      go_roundw
      case rel => exact ⟨vn, _, i + 1, rfl, rfl, by omega, by go_num, HL6⟩
      case measure => simp [intOf]; omega
    · obtain rfl : i = E.length := by omega
      have HLe := HLi.out
      rw [List.take_length] at HLe
      have HL7 := hide_ HLe
      clear HLe HLi
      have hbl2 : (E.flatMap entB).length ≤ 10 * 1048576 := by
        have := flat_take_len (f := entB) (m := 10) E (fun y hy => form_ten _ (by have := hE.out y hy; omega))
        omega
      have hp0 : p0L E ≤ 12 := by unfold p0L; omega
      have hbl : (preL enc E ++ E.flatMap entB).length = p0L E + (E.flatMap entB).length := by unfold preL p0L; simp; omega
      have hfc := form_ten C.length (by omega)
      have HA : Hid (∀ w', Below wq.heap.size wq w' → ∀ (g3 c3 : Nat), Row .u8 w' (some ⟨g3, 0, none⟩) (form C.length) → ∃ v w'', (Builtin.append_ #[34, 34] 34 #[vB, .slice (some ⟨g3, 0, none⟩) (form C.length).length c3]).run Tryd.prog w' = .ok v w'' ∧ LdM w w'' enc (.slice ac C.length cc) (.slice ae E.length ce) v vE (.slice none 0 0) (preL enc E ++ E.flatMap entB ++ form C.length ++ (C.take 0).flatMap insB) (posL entB (p0L E) E) (posL insB (p1L C E) (C.take 0))) := hide_ (fun w' hb g3 c3 hr3 => by
        obtain ⟨v, w'', h1, h2, -⟩ := (HL7.out.later hb).app (some ⟨g3, 0, none⟩) c3 (form C.length) hr3 (fun h => by cases h) (by omega)
        exact ⟨v, w'', h1, by simpa [posL] using h2⟩)
      have hPl : (preL enc E ++ E.flatMap entB ++ form C.length).length = p1L C E := by rw [List.length_append, hbl]; rfl
      have hp1 : p1L C E ≤ 20000000 := by unfold p1L; omega
      generalize hpr : preL enc E ++ E.flatMap entB ++ form C.length = pr at *
      have HPr := hide_ hpr
      have HPl := hide_ hPl
      clear hbl hpr hPl hbl2
      go_upto_region 12 with (first
        | (go_at_call 62; refine (HPut.out C.length _ (by omega)).mono ?_; rintro e w3 ⟨g3, c3, rfl, HR3, hB3⟩; obtain ⟨vn, w6, hrun6, hL6⟩ := HA.out w3 hB3 g3 c3 HR3.out; (have HR6 := hide_ hrun6); (have HL6 := hide_ hL6); clear hrun6 hL6 hB3 HR3)
        | (at_builtin; have _t := HR6; refine wpList_append_run rfl (.tmp 47) (.tmp 52) 34 34 rfl rfl rfl HR6.out ?_; clear HR6))
      clear p1 p2 HA HL7
      go_wp2_with fail
      go_loopw [5, 7, 9] (fun x5 x7 x9 wr => ∃ (vB vC : Value) (i : Nat), vB = x5 ∧ vC = x7 ∧ i ≤ C.length ∧ x9 = .int .i64 (i : Int) ∧ Hid (LdM w wr enc (.slice ac C.length cc) (.slice ae E.length ce) vB vE vC (pr ++ (C.take i).flatMap insB) (posL entB (p0L E) E) (posL insB (p1L C E) (C.take i)))) (fun _ _ x9 _ => C.length - (intOf x9).toNat)
      case atStart => exact ⟨vn, _, 0, rfl, rfl, Nat.zero_le _, rfl, HL6⟩
      case round =>
        obtain ⟨vB, vC, i, rfl, rfl, hi, rfl, HLi⟩ := hrel
        generalize wr = wr1 at *
        clear HL6
        have p1 := HLi.out.p.cell 1; have p0 := HLi.out.p.cell 0
        simp at p0 p1
        by_cases hlt : i < C.length
        · have hlt' : (i : Int) < C.length := by omega
          have hx : C[i]? = some (C[i]'hlt) := List.getElem?_eq_getElem hlt
          have hok := hC.out _ (List.getElem_mem hlt)
          have HT := hide_ (take_flat (f := insB) hx)
          have HPs : Hid (posL insB (p1L C E) (C.take (i + 1)) = posL insB (p1L C E) (C.take i) ++ [((p1L C E + ((C.take i).flatMap insB).length : Nat) : Int)]) := hide_ (by rw [List.take_add_one, hx]; exact posL_snoc insB (C.take i) (p1L C E) _)
          have HXi := hide_ hx
          generalize C[i]'hlt = x at *
          have hoo := isOf_rng hok.of
          obtain ⟨n, hn⟩ := Int.eq_ofNat_of_zero_le (show 0 ≤ x.op by omega)
          have hbl2 : ((C.take i).flatMap insB).length ≤ 40 * 1048576 := by
            have := flat_take_len (f := insB) (m := 40) (C.take i) (fun y hy => (hC.out y (List.mem_of_mem_take hy)).len)
            rw [List.length_take] at this
            omega
          have hbl : (pr ++ (C.take i).flatMap insB).length = p1L C E + ((C.take i).flatMap insB).length := by rw [List.length_append, HPl.out]
          have hfn := form_ten n (by omega)
          obtain ⟨aB, cB, hvB, -⟩ := HLi.out.B.row
          subst hvB
          obtain ⟨g, cap, w5, hrunE, hL5⟩ := HLi.out.pushC ((pr ++ (C.take i).flatMap insB).length : Int) (by rw [posL_len, List.length_take]; omega)
          have HRn := hide_ hrunE
          have HL5 := hide_ hL5
          obtain ⟨bC, oC, rfl, -, -⟩ := hr.out.open (by omega)
          have HRw : Hid (∀ w', Below w5.heap.size w5 w' → IRow w' (some ⟨bC, oC, none⟩) C) := hide_ (fun w' hb => hr.out.later (below_to hL5.bl hb))
          have hc0 := (IRow.at (HRw.out w5 (Below.refl _ _)) HXi.out).1
          rw [hn] at hc0
          have q1 := hL5.p.cell 1
          simp at q1
          have hLb : (pr ++ (C.take i).flatMap insB).length ≤ 100000000 := by omega
          have HBl := hide_ hbl
          generalize hbb : pr ++ (C.take i).flatMap insB = bb at *
          have HBb := hide_ hbb
          clear hrunE hL5 hx hbl hbl2 hbb
          generalize posL insB (p1L C E) (C.take i) = ps at *
          have HA : Hid (∀ w', Below w5.heap.size w5 w' → ∀ (g3 c3 : Nat), Row .u8 w' (some ⟨g3, 0, none⟩) (form n) → ∃ v w'', (Builtin.append_ #[34, 34] 34 #[.slice aB bb.length cB, .slice (some ⟨g3, 0, none⟩) (form n).length c3]).run Tryd.prog w' = .ok v w'' ∧ LdM w w'' enc (.slice (some ⟨bC, oC, none⟩) C.length cc) (.slice ae E.length ce) v vE (.slice (some ⟨g, 0, none⟩) (ps.length + 1) cap) (bb ++ form n) (posL entB (p0L E) E) (ps ++ [(bb.length : Int)])) := hide_ (fun w' hb g3 c3 hr3 => by
            obtain ⟨v, w'', h1, h2, -⟩ := (HL5.out.later hb).app (some ⟨g3, 0, none⟩) c3 (form n) hr3 (fun h => by cases h) (by omega)
            exact ⟨v, w'', h1, h2⟩)
          go_upto_region 17 with (first
            | (at_builtin; have _t := HRn; refine wpList_append_run rfl (.tmp 61) (.tmp 64) 24 24 rfl rfl rfl HRn.out ?_; clear HRn p0 p1)
            | (go_at_call 62; refine (HPut.out n _ (by omega)).mono ?_; rintro e w3 ⟨g3, c3, rfl, HR3, hB3⟩; obtain ⟨vn2, wa, hrun6, hL6⟩ := HA.out w3 hB3 g3 c3 HR3.out; (have HR6 := hide_ hrun6); (have HLa := hide_ hL6); clear hrun6 hL6 hB3 HR3)
            | (at_builtin; have _t := HR6; refine wpList_append_run rfl (.tmp 66) (.tmp 74) 34 34 rfl rfl rfl HR6.out ?_; clear HR6))
          clear HA HL5 hc0 q1 HLi HRw
          have HRa := hide_ (hr.out.later HLa.out.bl)
          obtain ⟨l0, l1, l2, hl⟩ := three (ofI_kat hok.of (j := 0) (by omega)).1
          have hsl : ofL x.op enc = ⟨#[l0, l1, l2]⟩ := by unfold ofL; rw [if_pos hok.of, hl]
          obtain ⟨i0, i1, i2⟩ := ltr_iff hok.of hl
          have HOf : Hid (∀ w', Calls Tryd.prog 34 #[.int .i64 x.op, .bool enc] w' fun e w'' => e = .returned (.tuple #[.agg #[.string (ofN x.op enc), .string ⟨#[l0, l1, l2]⟩], .bool true]) ∧ Below w'.heap.size w' w'') := hide_ (fun w' => by have := of_any x.op enc w'; rw [hsl, hok.of] at this; exact this)
          have HOp := hide_ (fun w' => roperands_any x (ofN x.op enc) l0 l1 l2 (kin x.op) i0 i1 i2 w')
          have HSS : Hid (∀ w', Below wa.heap.size wa w' → (fun w' => w'.cell? ⟨w.heap.size, 0, none⟩ = some (.bool enc) ∧ w'.cell? ⟨w.heap.size, 1, none⟩ = some (.slice (some ⟨bC, oC, none⟩) C.length cc) ∧ w'.cell? ⟨bC, oC + i * 4, none⟩ = some (.int .i64 x.op)) w') := hide_ (fun w' hb => ⟨(HLa.out.later hb).p.cell 0, (HLa.out.later hb).p.cell 1, (IRow.at (HRa.out.later hb) HXi.out).1⟩)
          have HInB : Hid (insB x = form n ++ (nmd x).flatMap opB) := hide_ (by unfold insB; rw [hn]; rfl)
          have HNm := hide_ hok.nm
          have hnml : (nmd x).length ≤ 3 := nmj_len x (kin x.op) 3
          clear hl hsl i0 i1 i2 hn
          go_cut [10, 11] from 76 to 87 (fun x10 x11 wc => ∃ (gf : Nat) (wf : World), wf = wc ∧ x10 = .pointer (some ⟨gf, 0, none⟩) ∧ Hid (Blk wf gf 68 [.string (ofN x.op enc), .string ⟨#[l0, l1, l2]⟩]) ∧ Hid (Below wa.heap.size wa wf))
          case first =>
            refine wp_region_last 14 (fun w' => w'.cell? ⟨w.heap.size, 0, none⟩ = some (.bool enc) ∧ w'.cell? ⟨w.heap.size, 1, none⟩ = some (.slice (some ⟨bC, oC, none⟩) C.length cc) ∧ w'.cell? ⟨bC, oC + i * 4, none⟩ = some (.int .i64 x.op)) (by kernel_rfl) (HSS.out _ ((Below.refl wa.heap.size wa).drew)) (fun hHeld => ?_)
            refine wpAnyF_take [14] (by kernel_rfl) (i := 0) (v := ?vp1) rfl (by kernel_rfl) (by kernel_rfl) (by kernel_rfl) (fun _ _ _ h => h) (Or.inl ⟨by kernel_rfl, ?hyp1⟩) hHeld ?restp1
            case hyp1 => intro w' hSw; (try dsimp only at hSw); go_simp; try with_reducible rfl
            simp only [Act.put]
            refine wpAnyF_take [14] (by kernel_rfl) (i := 1) (v := ?vp2) rfl (by kernel_rfl) (by kernel_rfl) (by kernel_rfl) (fun _ _ _ h => h) (Or.inl ⟨by kernel_rfl, ?hyp2⟩) hHeld ?restp2
            case hyp2 => intro w' hSw; (try dsimp only at hSw); go_simp; try with_reducible rfl
            simp only [Act.put]
            refine wpAnyF_take [14] (by kernel_rfl) (i := 2) (v := ?vp3) rfl (by kernel_rfl) (by kernel_rfl) (by kernel_rfl) (fun _ _ _ h => h) (Or.inl ⟨by kernel_rfl, ?hyp3⟩) hHeld ?restp3
            case hyp3 => intro w' hSw; (try dsimp only at hSw); go_simp; try with_reducible rfl
            simp only [Act.put]
            refine wpAnyF_take [14] (by kernel_rfl) (i := 3) (v := ?vp4) rfl (by kernel_rfl) (by kernel_rfl) (by kernel_rfl) (fun _ _ _ h => h) (Or.inl ⟨by kernel_rfl, ?hyp4⟩) hHeld ?restp4
            case hyp4 => intro w' hSw; (try dsimp only at hSw); go_simp; try with_reducible rfl
            simp only [Act.put]
            refine wpAnyF_take [14] (by kernel_rfl) (i := 4) (v := ?vp5) rfl (by kernel_rfl) (by kernel_rfl) (by kernel_rfl) (fun _ _ _ h => h) (Or.inl ⟨by kernel_rfl, ?hyp5⟩) hHeld ?restp5
            case hyp5 => intro w' hSw; (try dsimp only at hSw); go_simp; try with_reducible rfl
            simp only [Act.put]
            refine wpAnyF_take [14] (by kernel_rfl) (i := 5) (v := ?vp6) rfl (by kernel_rfl) (by kernel_rfl) (by kernel_rfl) (fun _ _ _ h => h) (Or.inl ⟨by kernel_rfl, ?hyp6⟩) hHeld ?restp6
            case hyp6 => intro w' hSw; (try dsimp only at hSw); go_simp; try with_reducible rfl
            simp only [Act.put]
            refine wpAnyF_take [14] (by kernel_rfl) (i := 6) (v := ?vp7) rfl (by kernel_rfl) (by kernel_rfl) (by kernel_rfl) (fun _ _ _ h => h) (Or.inl ⟨by kernel_rfl, ?hyp7⟩) hHeld ?restp7
            case hyp7 => intro w' hSw; (try dsimp only at hSw); go_simp; try with_reducible rfl
            simp only [Act.put]
            refine wpAnyF_take [14] (by kernel_rfl) (i := 7) (v := ?vp8) rfl (by kernel_rfl) (by kernel_rfl) (by kernel_rfl) (fun _ _ _ h => h) (Or.inl ⟨by kernel_rfl, ?hyp8⟩) hHeld ?restp8
            case hyp8 => intro w' hSw; (try dsimp only at hSw); go_simp; try with_reducible rfl
            simp only [Act.put]
            refine wpAnyF_ready (rs := [8, 12]) (by kernel_rfl) (by simp) ?_
            refine AllReadyF.cons rfl (fun K hK => ?_) ?_
            · go_simp
              refine (HOf.out _).mono ?_
              rintro e wO ⟨rfl, hbO⟩
              dsimp only
              have HX := hide_ (below_to ((Below.refl wa.heap.size wa).drew) hbO)
              clear hbO
              refine hK.out _ _ (HSS.out _ HX.out) (fun hHeld => ?_)
              clear hK K
              refine wpAnyF_take [14] (by kernel_rfl) (i := 9) (v := ?vp9) rfl (by kernel_rfl) (by kernel_rfl) (by kernel_rfl) (fun _ _ _ h => h) (Or.inl ⟨by kernel_rfl, ?hyp9⟩) hHeld ?restp9
              case hyp9 => intro w' hSw; (try dsimp only at hSw); go_simp; try with_reducible rfl
              simp only [Act.put]
              refine wpAnyF_take [14] (by kernel_rfl) (i := 10) (v := ?vp10) rfl (by kernel_rfl) (by kernel_rfl) (by kernel_rfl) (fun _ _ _ h => h) (Or.inl ⟨by kernel_rfl, ?hyp10⟩) hHeld ?restp10
              case hyp10 => intro w' hSw; (try dsimp only at hSw); go_simp; try with_reducible rfl
              simp only [Act.put]
              refine wpAnyF_take [14] (by kernel_rfl) (i := 11) (v := ?vp11) rfl (by kernel_rfl) (by kernel_rfl) (by kernel_rfl) (fun _ _ _ h => h) (Or.inl ⟨by kernel_rfl, ?hyp11⟩) hHeld ?restp11
              case hyp11 => intro w' hSw; (try dsimp only at hSw); go_simp; try with_reducible rfl
              simp only [Act.put]
              refine wpAnyF_ready (rs := [12]) (by kernel_rfl) (by simp) ?_
              refine AllReadyF.cons rfl (fun K hK => ?_) AllReadyF.nil
              go_simp
              obtain ⟨wA, hwA⟩ : ∃ wx, wx = World.alloc wO (.cells #[.string ⟨#[]⟩, .string ⟨#[]⟩] 68) := ⟨_, rfl⟩
              have KA : Hid (Blk wA wO.heap.size 68 [.string ⟨#[]⟩, .string ⟨#[]⟩]) := hide_ (by rw [hwA]; exact Blk.newA _ _ _)
              have hbA : Below wO.heap.size wO wA := by rw [hwA]; exact below1 _ _
              have HGA : Hid (wa.heap.size ≤ wO.heap.size) := hide_ HX.out.size
              have HX := hide_ (below_to HX.out hbA)
              try rw [← hwA]
              clear hwA hbA
              refine hK.out _ _ (HSS.out _ HX.out) (fun hHeld => ?_)
              clear hK K
              refine wpAnyF_ready (rs := [13]) (by kernel_rfl) (by simp) ?_
              refine AllReadyF.cons rfl (fun K hK => ?_) AllReadyF.nil
              have z0 := KA.out.cell 0; have z1 := KA.out.cell 1
              have zf := fun i => KA.out.frozen i
              simp at z0 z1
              go_simp
              have KS := hide_ (wr2o KA.out (.string (ofN x.op enc)) (.string ⟨#[l0, l1, l2]⟩))
              have HX := hide_ (below_set (below_set HX.out _ 0 (.string (ofN x.op enc)) HGA.out) _ 1 (.string ⟨#[l0, l1, l2]⟩) HGA.out)
              refine hK.out _ _ (HSS.out _ HX.out) (fun hHeld => ?_)
              clear hK K
              refine wpAnyF_ready (rs := [14]) (by kernel_rfl) (by simp) ?_
              refine AllReadyF.last rfl (fun K hK => ?_)
              go_simp
              refine hK.out _ _ ?_
              clear hK K
              refine wpAnyF_done (by kernel_rfl) ?_ _
              go_wp2_with fail
              go_meet
              case rel => exact ⟨_, _, rfl, rfl, KS, HX⟩
            refine AllReadyF.cons rfl (fun K hK => ?_) AllReadyF.nil
            go_simp
            obtain ⟨wA, hwA⟩ : ∃ wx, wx = (World.alloc wa (.cells #[.string ⟨#[]⟩, .string ⟨#[]⟩] 68)).drew := ⟨_, rfl⟩
            have KA : Hid (Blk wA wa.heap.size 68 [.string ⟨#[]⟩, .string ⟨#[]⟩]) := hide_ (by rw [hwA]; exact (Blk.newA _ _ _).drew)
            have HGA : Hid (wa.heap.size ≤ wa.heap.size) := hide_ (Nat.le_refl _)
            have HX : Hid (Below wa.heap.size wa wA) := hide_ (by rw [hwA]; exact (below1 _ _).drew)
            try rw [← hwA]
            clear hwA
            refine hK.out _ _ (HSS.out _ HX.out) (fun hHeld => ?_)
            clear hK K
            refine wpAnyF_ready (rs := [8]) (by kernel_rfl) (by simp) ?_
            refine AllReadyF.cons rfl (fun K hK => ?_) AllReadyF.nil
            go_simp
            refine (HOf.out _).mono ?_
            rintro e wO ⟨rfl, hbO⟩
            dsimp only
            have KA := hide_ (KA.out.later hbO)
            have HX := hide_ (below_to (HX.out) hbO)
            clear hbO
            refine hK.out _ _ (HSS.out _ HX.out) (fun hHeld => ?_)
            clear hK K
            refine wpAnyF_take [14] (by kernel_rfl) (i := 9) (v := ?vp12) rfl (by kernel_rfl) (by kernel_rfl) (by kernel_rfl) (fun _ _ _ h => h) (Or.inl ⟨by kernel_rfl, ?hyp12⟩) hHeld ?restp12
            case hyp12 => intro w' hSw; (try dsimp only at hSw); go_simp; try with_reducible rfl
            simp only [Act.put]
            refine wpAnyF_take [14] (by kernel_rfl) (i := 10) (v := ?vp13) rfl (by kernel_rfl) (by kernel_rfl) (by kernel_rfl) (fun _ _ _ h => h) (Or.inl ⟨by kernel_rfl, ?hyp13⟩) hHeld ?restp13
            case hyp13 => intro w' hSw; (try dsimp only at hSw); go_simp; try with_reducible rfl
            simp only [Act.put]
            refine wpAnyF_take [14] (by kernel_rfl) (i := 11) (v := ?vp14) rfl (by kernel_rfl) (by kernel_rfl) (by kernel_rfl) (fun _ _ _ h => h) (Or.inl ⟨by kernel_rfl, ?hyp14⟩) hHeld ?restp14
            case hyp14 => intro w' hSw; (try dsimp only at hSw); go_simp; try with_reducible rfl
            simp only [Act.put]
            refine wpAnyF_ready (rs := [13]) (by kernel_rfl) (by simp) ?_
            refine AllReadyF.cons rfl (fun K hK => ?_) AllReadyF.nil
            have z0 := KA.out.cell 0; have z1 := KA.out.cell 1
            have zf := fun i => KA.out.frozen i
            simp at z0 z1
            go_simp
            have KS := hide_ (wr2o KA.out (.string (ofN x.op enc)) (.string ⟨#[l0, l1, l2]⟩))
            have HX := hide_ (below_set (below_set HX.out _ 0 (.string (ofN x.op enc)) HGA.out) _ 1 (.string ⟨#[l0, l1, l2]⟩) HGA.out)
            refine hK.out _ _ (HSS.out _ HX.out) (fun hHeld => ?_)
            clear hK K
            refine wpAnyF_ready (rs := [14]) (by kernel_rfl) (by simp) ?_
            refine AllReadyF.last rfl (fun K hK => ?_)
            go_simp
            refine hK.out _ _ ?_
            clear hK K
            refine wpAnyF_done (by kernel_rfl) ?_ _
            go_wp2_with fail
            go_meet
            case rel => exact ⟨_, _, rfl, rfl, KS, HX⟩
          case rest =>
          obtain ⟨gf, wb, rfl, rfl, KF, HBab⟩ := hcut
          have HLb := hide_ (HLa.out.later HBab.out)
          have HRb := hide_ (HRa.out.later HBab.out)
          clear HSS HLa HRa HOf
          have HSS : Hid (∀ w', Below wb.heap.size wb w' → (fun w' => w'.cell? ⟨w.heap.size, 1, none⟩ = some (.slice (some ⟨bC, oC, none⟩) C.length cc) ∧ w'.cell? ⟨bC, oC + i * 4, none⟩ = some (.int .i64 x.op) ∧ w'.cell? ⟨bC, oC + i * 4 + 1, none⟩ = some (.int .i64 x.a) ∧ w'.cell? ⟨bC, oC + i * 4 + 2, none⟩ = some (.int .i64 x.b) ∧ w'.cell? ⟨bC, oC + i * 4 + 3, none⟩ = some (.int .i64 x.c) ∧ w'.cell? ⟨gf, 0, none⟩ = some (.string (ofN x.op enc)) ∧ w'.cell? ⟨gf, 1, none⟩ = some (.string ⟨#[l0, l1, l2]⟩)) w') := hide_ (fun w' hb => ⟨(HLb.out.later hb).p.cell 1, (IRow.at (HRb.out.later hb) HXi.out).1, (IRow.at (HRb.out.later hb) HXi.out).2.1, (IRow.at (HRb.out.later hb) HXi.out).2.2.1, (IRow.at (HRb.out.later hb) HXi.out).2.2.2, (KF.out.later hb).cell 0, (KF.out.later hb).cell 1⟩)
          go_upto_region 18 with fail
          go_cut [12] from 88 to 94 (fun x12 wc => ∃ (vL : Value) (wf : World), wf = wc ∧ x12 = vL ∧ Hid (IOwn wf wb.heap.size vL (nmd x)) ∧ Hid (Below wb.heap.size wb wf))
          case first =>
            refine wp_region_last 7 (fun w' => w'.cell? ⟨w.heap.size, 1, none⟩ = some (.slice (some ⟨bC, oC, none⟩) C.length cc) ∧ w'.cell? ⟨bC, oC + i * 4, none⟩ = some (.int .i64 x.op) ∧ w'.cell? ⟨bC, oC + i * 4 + 1, none⟩ = some (.int .i64 x.a) ∧ w'.cell? ⟨bC, oC + i * 4 + 2, none⟩ = some (.int .i64 x.b) ∧ w'.cell? ⟨bC, oC + i * 4 + 3, none⟩ = some (.int .i64 x.c) ∧ w'.cell? ⟨gf, 0, none⟩ = some (.string (ofN x.op enc)) ∧ w'.cell? ⟨gf, 1, none⟩ = some (.string ⟨#[l0, l1, l2]⟩)) (by kernel_rfl) (HSS.out _ ((Below.refl wb.heap.size wb).drew)) (fun hHeld => ?_)
            refine wpAnyF_take [7] (by kernel_rfl) (i := 0) (v := ?vo1) rfl (by kernel_rfl) (by kernel_rfl) (by kernel_rfl) (fun _ _ _ h => h) (Or.inl ⟨by kernel_rfl, ?hyo1⟩) hHeld ?resto1
            case hyo1 => intro w' hSw; (try dsimp only at hSw); go_simp; try with_reducible rfl
            simp only [Act.put]
            refine wpAnyF_take [7] (by kernel_rfl) (i := 1) (v := ?vo2) rfl (by kernel_rfl) (by kernel_rfl) (by kernel_rfl) (fun _ _ _ h => h) (Or.inl ⟨by kernel_rfl, ?hyo2⟩) hHeld ?resto2
            case hyo2 => intro w' hSw; (try dsimp only at hSw); go_simp; try with_reducible rfl
            simp only [Act.put]
            refine wpAnyF_take [7] (by kernel_rfl) (i := 2) (v := ?vo3) rfl (by kernel_rfl) (by kernel_rfl) (by kernel_rfl) (fun _ _ _ h => h) (Or.inl ⟨by kernel_rfl, ?hyo3⟩) hHeld ?resto3
            case hyo3 => intro w' hSw; (try dsimp only at hSw); go_simp; try with_reducible rfl
            simp only [Act.put]
            refine wpAnyF_take [7] (by kernel_rfl) (i := 3) (v := ?vo4) rfl (by kernel_rfl) (by kernel_rfl) (by kernel_rfl) (fun _ _ _ h => h) (Or.inl ⟨by kernel_rfl, ?hyo4⟩) hHeld ?resto4
            case hyo4 => intro w' hSw; (try dsimp only at hSw); go_simp; try with_reducible rfl
            simp only [Act.put]
            refine wpAnyF_take [7] (by kernel_rfl) (i := 4) (v := ?vo5) rfl (by kernel_rfl) (by kernel_rfl) (by kernel_rfl) (fun _ _ _ h => h) (Or.inl ⟨by kernel_rfl, ?hyo5⟩) hHeld ?resto5
            case hyo5 => intro w' hSw; (try dsimp only at hSw); go_simp; try with_reducible rfl
            simp only [Act.put]
            refine wpAnyF_take [7] (by kernel_rfl) (i := 5) (v := ?vo6) rfl (by kernel_rfl) (by kernel_rfl) (by kernel_rfl) (fun _ _ _ h => h) (Or.inl ⟨by kernel_rfl, ?hyo6⟩) hHeld ?resto6
            case hyo6 => intro w' hSw; (try dsimp only at hSw); go_simp; try with_reducible rfl
            simp only [Act.put]
            refine wpAnyF_ready (rs := [6]) (by kernel_rfl) (by simp) ?_
            refine AllReadyF.cons rfl (fun K hK => ?_) AllReadyF.nil
            go_simp
            refine (HOp.out _).mono ?_
            rintro e wO ⟨⟨vL, rfl, HOl⟩, hbO⟩
            dsimp only
            have HX := hide_ (below_to ((Below.refl wb.heap.size wb).drew) hbO)
            clear hbO
            refine hK.out _ _ (HSS.out _ HX.out) (fun hHeld => ?_)
            clear hK K
            refine wpAnyF_ready (rs := [7]) (by kernel_rfl) (by simp) ?_
            refine AllReadyF.last rfl (fun K hK => ?_)
            go_simp
            refine hK.out _ _ ?_
            clear hK K
            refine wpAnyF_done (by kernel_rfl) ?_ _
            go_wp2_with fail
            go_meet
            case rel => exact ⟨vL, _, rfl, rfl, hide_ (own_base HOl.out (Nat.le_refl _)), HX⟩
          case rest =>
          obtain ⟨vL, wc, rfl, rfl, HOl, HBbc⟩ := hcut
          have HLc := hide_ (HLb.out.later HBbc.out)
          clear HSS HLb HRb HOp KF
          obtain ⟨aL, cL, hvL, -⟩ := HOl.out.row
          subst hvL
          have HLd : Hid (LdM w wc enc (.slice (some ⟨bC, oC, none⟩) C.length cc) (.slice ae E.length ce) vn2 vE (.slice (some ⟨g, 0, none⟩) (ps.length + 1) cap) (bb ++ form n ++ ((nmd x).take 0).flatMap opB) (posL entB (p0L E) E) (ps ++ [(bb.length : Int)])) := hide_ (by simpa using HLc.out)
          clear HLc
          generalize hnm : nmd x = nm at *
          clear hnm
          go_wp2_with fail
          go_loopw [5, 13] (fun x5 x13 wr => ∃ (vB : Value) (k : Nat), vB = x5 ∧ k ≤ nm.length ∧ x13 = .int .i64 (k : Int) ∧ Hid (LdM w wr enc (.slice (some ⟨bC, oC, none⟩) C.length cc) (.slice ae E.length ce) vB vE (.slice (some ⟨g, 0, none⟩) (ps.length + 1) cap) (bb ++ form n ++ (nm.take k).flatMap opB) (posL entB (p0L E) E) (ps ++ [(bb.length : Int)])) ∧ Hid (IOwn wr wb.heap.size (.slice aL nm.length cL) nm)) (fun _ x13 _ => nm.length - (intOf x13).toNat)
          case atStart => exact ⟨vn2, 0, rfl, Nat.zero_le _, rfl, HLd, HOl⟩
          case round =>
            obtain ⟨vB, k, rfl, hk, rfl, HLk, HOk⟩ := hrel
            generalize wr = wk at *
            clear HLd HOl
            by_cases hkl : k < nm.length
            · have hkl' : (k : Int) < nm.length := by omega
              have hx : nm[k]? = some (nm[k]'hkl) := List.getElem?_eq_getElem hkl
              have hrg := HNm.out _ (List.getElem_mem hkl)
              have HTk := hide_ (take_flat (f := opB) hx)
              have hgd : nm.getD k 0 = nm[k]'hkl := by rw [List.getD, hx]; rfl
              generalize nm[k]'hkl = y at *
              obtain ⟨m, hm⟩ := Int.eq_ofNat_of_zero_le (show 0 ≤ y + 1 by omega)
              have HOm : Hid (opB y = form m) := hide_ (by unfold opB; rw [hm]; rfl)
              have hfm := form_ten m (by omega)
              have hb3 : ((nm.take k).flatMap opB).length ≤ 30 := by
                have := flat_take_len (f := opB) (m := 10) (nm.take k) (fun z hz => form_ten _ (by have := HNm.out z (List.mem_of_mem_take hz); omega))
                rw [List.length_take] at this
                omega
              obtain ⟨aL', cL', e1, hrL, -, -⟩ := HOk.out.row
              injection e1 with e1 _ e2
              subst e1 e2
              obtain ⟨bL, oL, rfl, -, hcs⟩ := hrL.open (by omega)
              have hc := hcs k hkl
              rw [hgd] at hc
              have HA : Hid (∀ w', Below wk.heap.size wk w' → ∀ (g3 c3 : Nat), Row .u8 w' (some ⟨g3, 0, none⟩) (form m) → ∃ v w'', (Builtin.append_ #[34, 34] 34 #[vB, .slice (some ⟨g3, 0, none⟩) (form m).length c3]).run Tryd.prog w' = .ok v w'' ∧ LdM w w'' enc (.slice (some ⟨bC, oC, none⟩) C.length cc) (.slice ae E.length ce) v vE (.slice (some ⟨g, 0, none⟩) (ps.length + 1) cap) (bb ++ form n ++ (nm.take (k + 1)).flatMap opB) (posL entB (p0L E) E) (ps ++ [(bb.length : Int)]) ∧ IOwn w'' wb.heap.size (.slice (some ⟨bL, oL, none⟩) nm.length cL) nm) := hide_ (fun w' hb g3 c3 hr3 => by
                obtain ⟨v, w'', h1, h2, h3⟩ := (HLk.out.later hb).app (some ⟨g3, 0, none⟩) c3 (form m) hr3 (fun h => by cases h) (by simp only [List.length_append]; omega)
                refine ⟨v, w'', h1, ?_, h3 _ _ _ (HOk.out.later hb)⟩
                rw [HTk.out, HOm.out, ← List.append_assoc]
                exact h2)
              clear hcs hrL hx hgd hb3
              go_wp2_with (first
                | (go_at_call 62; refine (HPut.out m _ (by omega)).mono ?_; rintro e w3 ⟨g3, c3, rfl, HR3, hB3⟩; obtain ⟨vn3, w6, hrun6, hL6, hO6⟩ := HA.out w3 hB3 g3 c3 HR3.out; (have HR6 := hide_ hrun6); (have HL6 := hide_ hL6); (have HO6 := hide_ hO6); clear hrun6 hL6 hO6 hB3 HR3)
                | (at_builtin; have _t := HR6; refine wpList_append_run rfl (.tmp 101) (.tmp 108) 34 34 rfl rfl rfl HR6.out ?_; clear HR6))
              go_roundw
              case rel => exact ⟨vn3, k + 1, rfl, by omega, by go_num, HL6, HO6⟩
              case measure => simp [intOf]; omega
            · obtain rfl : k = nm.length := by omega
              have HL9 : Hid (LdM w wk enc (.slice (some ⟨bC, oC, none⟩) C.length cc) (.slice ae E.length ce) vB vE (.slice (some ⟨g, 0, none⟩) (ps.length + 1) cap) (pr ++ (C.take (i + 1)).flatMap insB) (posL entB (p0L E) E) (posL insB (p1L C E) (C.take (i + 1)))) := hide_ (by
                have := HLk.out
                rw [List.take_length, List.append_assoc, ← HInB.out, ← HBb.out, List.append_assoc, ← HT.out, HBb.out, HBl.out, ← HPs.out] at this
                exact this)
              go_wp2_with fail
              go_roundw
              case rel => exact ⟨vB, _, i + 1, rfl, rfl, by omega, by go_num, HL9⟩
              case measure => simp [intOf]; omega
        · obtain rfl : i = C.length := by omega
          have HLe := HLi.out
          rw [List.take_length, ← HPr.out] at HLe
          have HB9 : Hid (BOwn wr1 w.heap.size vB (encP enc C E)) := hide_ (by
            have := HLe.B
            unfold encP
            unfold preL at this
            exact this)
          have HE9 := hide_ HLe.E
          have HC9 := hide_ HLe.C
          have HL9 := hide_ HLe.bl
          clear HLe HLi
          go_wp2
          go_ret3
          exact ⟨vB, vE, vC, rfl, HB9, HE9, HC9, HL9.out⟩
end Go.Proofs.YtjojbfendkodgaaDoor
/- Code, plain: what the document's Decode reads, against the program's. -/
namespace Go.Proofs.YtjojbfendkodgaaDoor
open Go.RowKit
set_option linter.unusedVariables false

/-- Lists of what was read: where each began. -/
theorem rdM_pos {α : Type} {l : List Int} {f : Rs → α × Rs} {g : α → List Int} (hf : ∀ s, s.at_ ≤ l.length → (f s).2.e = 0 → s.e = 0 ∧ l.drop s.at_ = g (f s).1 ++ l.drop (f s).2.at_) (hat : ∀ s, s.at_ ≤ l.length → (f s).2.at_ ≤ l.length) : ∀ (n : Nat) (s : Rs), s.at_ ≤ l.length → (rdM f n s).2.2.e = 0 → (rdM f n s).1 = posL g s.at_ (rdM f n s).2.1 ∧ (rdM f n s).2.2.at_ = s.at_ + ((rdM f n s).2.1.flatMap g).length
  | 0, s, _, _ => by simp [rdM, posL]
  | n + 1, s, hs, h => by
    by_cases he : s.e = 0
    · rw [rdM, if_pos he] at h ⊢
      simp only at h ⊢
      have hs2 := hat s hs
      have hfe : (f s).2.e = 0 := by
        by_cases h0 : (f s).2.e = 0
        · exact h0
        · rw [rdM_stop f n _ h0] at h; exact absurd h h0
      obtain ⟨-, hd⟩ := hf s hs hfe
      have hl := congrArg List.length hd
      rw [List.length_append, List.length_drop, List.length_drop] at hl
      have hat2 : (f s).2.at_ = s.at_ + (g (f s).1).length := by omega
      obtain ⟨a, b⟩ := rdM_pos hf hat n (f s).2 hs2 h
      rw [posL, a, b, hat2, List.flatMap_cons, List.length_append]
      exact ⟨rfl, by omega⟩
    · rw [rdM_stop f _ s he] at h; exact absurd h he
theorem rdM_mem {α : Type} {f : Rs → α × Rs} {Q : α → Prop} (hf : ∀ s, (f s).2.e = 0 → Q (f s).1) : ∀ (n : Nat) (s : Rs), (rdM f n s).2.2.e = 0 → ∀ x ∈ (rdM f n s).2.1, Q x
  | 0, s, _, x, hx => by simp [rdM] at hx
  | n + 1, s, h, x, hx => by
    by_cases he : s.e = 0
    · rw [rdM, if_pos he] at h hx
      simp only at h hx
      have hfe : (f s).2.e = 0 := by
        by_cases h0 : (f s).2.e = 0
        · exact h0
        · rw [rdM_stop f n _ h0] at h; exact absurd h h0
      rcases List.mem_cons.1 hx with rfl | hx
      · exact hf s hfe
      · exact rdM_mem hf n _ h x hx
    · rw [rdM_stop f _ s he] at h; exact absurd h he
theorem rdN_in {l : List Int} (hb : Bys l) (s : Rs) : 0 ≤ (rdN l s).1 ∧ (rdN l s).1 ≤ 2147483648 := (rdN_val l s hb).2
theorem rd1_err {l : List Int} {k : Int} {s : Rs} (h : (rd1 l k s).2.e = 0) : s.e = 0 := by
  unfold rd1 at h
  split at h
  · exact h
  · by_cases he : s.e = 0
    · exact he
    · unfold rdN rdV at h; rw [if_neg he] at h; exact absurd h he
theorem rdV_may {l : List Int} {s : Rs} {er : Int} {may : Int → Bool} (her : er ≠ 0) (h : (rdV l s er may).2.e = 0) : may (rdV l s er may).1 = true := by
  by_cases he : s.e = 0
  · unfold rdV at h ⊢
    rw [if_pos he] at h ⊢
    by_cases hg : (getF (l.drop s.at_)).2.2 = 0
    · rw [if_pos hg] at h ⊢
      by_cases hm : may (getF (l.drop s.at_)).1 = true
      · rw [if_pos hm]; exact hm
      · rw [if_neg hm] at h; exact absurd h her
    · rw [if_neg hg] at h; exact absurd h hg
  · unfold rdV at h; rw [if_neg he] at h; exact absurd h he
theorem rdI_ok2 {l : List Int} (hb : Bys l) {enc : Bool} {s : Rs} (h : (rdI l enc s).2.e = 0) : OkI enc (rdI l enc s).1 := by
  have hx : rdI l enc s = (⟨(rdV l s 140 (mayI enc)).1, (rd1 l (kin (rdV l s 140 (mayI enc)).1).1 (rdV l s 140 (mayI enc)).2).1, (rd1 l (kin (rdV l s 140 (mayI enc)).1).2.1 (rd1 l (kin (rdV l s 140 (mayI enc)).1).1 (rdV l s 140 (mayI enc)).2).2).1, (rd1 l (kin (rdV l s 140 (mayI enc)).1).2.2 (rd1 l (kin (rdV l s 140 (mayI enc)).1).2.1 (rd1 l (kin (rdV l s 140 (mayI enc)).1).1 (rdV l s 140 (mayI enc)).2).2).2).1⟩, (rd1 l (kin (rdV l s 140 (mayI enc)).1).2.2 (rd1 l (kin (rdV l s 140 (mayI enc)).1).2.1 (rd1 l (kin (rdV l s 140 (mayI enc)).1).1 (rdV l s 140 (mayI enc)).2).2).2).2) := rfl
  rw [hx] at h ⊢
  simp only at h ⊢
  have h1 := rd1_err (rd1_err (rd1_err h))
  have hm := rdV_may (by decide) h1
  have hof : isOf (rdV l s 140 (mayI enc)).1 enc = true := by unfold mayI at hm; rw [Bool.and_eq_true] at hm; exact hm.2
  generalize (rdV l s 140 (mayI enc)).1 = op at *
  generalize (rdV l s 140 (mayI enc)).2 = s1 at *
  have v : ∀ (k : Int) (q : Rs), k ≠ 0 → -1 ≤ (rd1 l k q).1 ∧ (rd1 l k q).1 ≤ 2147483648 := fun k q hk => by
    unfold rd1
    rw [if_neg hk]
    have := rdN_in hb q
    simp only
    omega
  refine ⟨hof, fun n hn => ?_⟩
  have e : nmd ⟨op, (rd1 l (kin op).1 s1).1, (rd1 l (kin op).2.1 (rd1 l (kin op).1 s1).2).1, (rd1 l (kin op).2.2 (rd1 l (kin op).2.1 (rd1 l (kin op).1 s1).2).2).1⟩ = (if (kin op).1 ≠ 0 then [(rd1 l (kin op).1 s1).1] else []) ++ (if (kin op).2.1 ≠ 0 then [(rd1 l (kin op).2.1 (rd1 l (kin op).1 s1).2).1] else []) ++ (if (kin op).2.2 ≠ 0 then [(rd1 l (kin op).2.2 (rd1 l (kin op).2.1 (rd1 l (kin op).1 s1).2).2).1] else []) := by
    unfold nmd
    simp [nmj, kat, oat]
  rw [e] at hn
  simp only [List.mem_append] at hn
  rcases hn with (hn | hn) | hn
  all_goals
    split at hn
    · rename_i hk
      simp at hn
      rw [hn]
      exact v _ _ hk
    · simp at hn
end Go.Proofs.YtjojbfendkodgaaDoor
/- Code, plain: the two bytes ahead of a program; what lies in memory while the document reads it. -/
namespace Go.Proofs.YtjojbfendkodgaaDoor
open Go.RowKit
set_option linter.unusedVariables false

/-- What is read behind the first two bytes. -/
def tlP (l : List Int) (enc : Bool) (s : Rs) : Pg :=
  let n := rdV l s 4 mayC
  let es := rdM (rdN l) n.1.toNat n.2
  let m := rdV l es.2.2 4 mayC
  let cs := rdM (rdI l enc) m.1.toNat m.2
  ⟨enc, es.1, es.2.1, cs.1, cs.2.1, if cs.2.2.at_ < l.length then rfs cs.2.2 124 cs.2.2.at_ else cs.2.2⟩
theorem rdV_err {l : List Int} {s : Rs} {er : Int} {may : Int → Bool} (h : s.e ≠ 0) : rdV l s er may = (0, s) := by unfold rdV; rw [if_neg h]
theorem tlP_err {l : List Int} {enc : Bool} {s : Rs} (h : s.e ≠ 0) : (tlP l enc s).s = s := by
  unfold tlP
  rw [rdV_err h]
  simp only [Int.toNat_zero, rdM]
  rw [rdV_err h]
  simp only [Int.toNat_zero, rdM]
  split
  · unfold rfs; rw [if_neg h]
  · rfl
theorem dec_of_err {l : List Int} {enc : Bool} {s : Rs} (hp : pgm l = tlP l enc s) (h : s.e ≠ 0) : decF l = (s.e, s.p) := by
  unfold decF
  rw [hp, tlP_err h, if_pos h]
theorem rdO_end {l : List Int} {s : Rs} {lo hi : Int} (he : s.e = 0) (h : s.at_ = l.length) : rdO l s lo hi = (lo, ⟨s.at_, 20, s.at_⟩) := by unfold rdO; rw [if_pos he, if_pos h]
theorem rdO_bad {l : List Int} {s : Rs} {lo hi : Int} (he : s.e = 0) (h : s.at_ ≠ l.length) (hb : l.getD s.at_ 0 < lo ∨ hi < l.getD s.at_ 0) : rdO l s lo hi = (l.getD s.at_ 0, ⟨s.at_ + 1, 150, s.at_⟩) := by unfold rdO; rw [if_pos he, if_neg h, if_pos hb]
theorem rdO_good {l : List Int} {s : Rs} {lo hi : Int} (he : s.e = 0) (h : s.at_ ≠ l.length) (hb : ¬ (l.getD s.at_ 0 < lo ∨ hi < l.getD s.at_ 0)) : rdO l s lo hi = (l.getD s.at_ 0, ⟨s.at_ + 1, 0, s.p⟩) := by unfold rdO; rw [if_pos he, if_neg h, if_neg hb]
theorem rdO_err {l : List Int} {s : Rs} {lo hi : Int} (he : s.e ≠ 0) : rdO l s lo hi = (lo, s) := by unfold rdO; rw [if_neg he]
theorem pgm_tl (l : List Int) : pgm l = tlP l ((rdO l (rdO l ⟨0, 0, 0⟩ 109 109).2 0 1).1 == 1) (rdO l (rdO l ⟨0, 0, 0⟩ 109 109).2 0 1).2 := rfl
theorem hd_0 {l : List Int} (h : l.length = 0) : decF l = (20, 0) := by
  have e1 := rdO_end (l := l) (s := ⟨0, 0, 0⟩) (lo := 109) (hi := 109) rfl (by simp only; omega)
  have e2 := rdO_err (l := l) (s := ⟨0, 20, 0⟩) (lo := 0) (hi := 1) (by decide)
  have hp := pgm_tl l
  rw [e1] at hp
  simp only [Int.natCast_zero] at hp
  rw [e2] at hp
  exact dec_of_err hp (by decide)
theorem hd_1 {l : List Int} (h : 0 < l.length) (h0 : l.getD 0 0 ≠ 109) : decF l = (150, 0) := by
  have e1 := rdO_bad (l := l) (s := ⟨0, 0, 0⟩) (lo := 109) (hi := 109) rfl (by simp only; omega) (by simp only; omega)
  have e2 := rdO_err (l := l) (s := ⟨0 + 1, 150, 0⟩) (lo := 0) (hi := 1) (by decide)
  have hp := pgm_tl l
  rw [e1] at hp
  simp only [Int.natCast_zero] at hp
  rw [e2] at hp
  exact dec_of_err hp (by decide)
theorem hd_2 {l : List Int} (h : l.length = 1) (h0 : l.getD 0 0 = 109) : decF l = (20, 1) := by
  have e1 := rdO_good (l := l) (s := ⟨0, 0, 0⟩) (lo := 109) (hi := 109) rfl (by simp only; omega) (by simp only; omega)
  have e2 := rdO_end (l := l) (s := ⟨0 + 1, 0, 0⟩) (lo := 0) (hi := 1) rfl (by simp only; omega)
  have hp := pgm_tl l
  rw [e1] at hp
  simp only at hp
  rw [e2] at hp
  exact dec_of_err hp (by decide)
theorem hd_3 {l : List Int} (h : 1 < l.length) (h0 : l.getD 0 0 = 109) (h1 : 1 < l.getD 1 0) : decF l = (150, 1) := by
  have e1 := rdO_good (l := l) (s := ⟨0, 0, 0⟩) (lo := 109) (hi := 109) rfl (by simp only; omega) (by simp only; omega)
  have e2 := rdO_bad (l := l) (s := ⟨0 + 1, 0, 0⟩) (lo := 0) (hi := 1) rfl (by simp only; omega) (by simp only; right; exact h1)
  have hp := pgm_tl l
  rw [e1] at hp
  simp only at hp
  rw [e2] at hp
  exact dec_of_err hp (by show (150 : Int) ≠ 0; decide)
theorem hd_4 {l : List Int} (hb : Bys l) (h : 1 < l.length) (h0 : l.getD 0 0 = 109) (h1 : ¬ 1 < l.getD 1 0) : pgm l = tlP l (l.getD 1 0 == 1) ⟨2, 0, 0⟩ := by
  have e1 := rdO_good (l := l) (s := ⟨0, 0, 0⟩) (lo := 109) (hi := 109) rfl (by simp only; omega) (by simp only; omega)
  have hn : 0 ≤ l.getD 1 0 := by
    have hx : l[1]? = some (l[1]'h) := List.getElem?_eq_getElem h
    rw [List.getD, hx]
    exact (hb _ (List.getElem_mem h)).1
  have e2 := rdO_good (l := l) (s := ⟨0 + 1, 0, 0⟩) (lo := 0) (hi := 1) rfl (by simp only; omega) (by simp only; intro q; rcases q with q | q <;> simp only [Nat.zero_add] at q <;> omega)
  have hp := pgm_tl l
  rw [e1] at hp
  simp only at hp
  rw [e2] at hp
  exact hp
/-- What lies in memory. -/
structure DcM (w w' : World) (gr gp : Nat) (v : Value) (t : Rs) (enc : Bool) (vX vN : Value) (X : List In) (N : List Int) : Prop where
  rd : Blk w' gr 74 (rrc v t)
  pr : Blk w' gp 26 [.bool enc, vX, vN]
  rs : Blk w' w.heap.size 26 [.bool false, .slice none 0 0, .slice none 0 0]
  oX : COwn w' w.heap.size vX X
  oN : IOwn w' w.heap.size vN N
  bl : Below w.heap.size w w'
  lr : w.heap.size ≤ gr
  lp : w.heap.size < gp
section
variable {w w' w'' : World} {gr gp : Nat} {v : Value} {t t' : Rs} {enc : Bool} {vX vN : Value} {X : List In} {N : List Int}
theorem DcM.later (h : DcM w w' gr gp v t enc vX vN X N) (hB : Below w'.heap.size w' w'') : DcM w w'' gr gp v t enc vX vN X N :=
  ⟨h.rd.later hB, h.pr.later hB, h.rs.later hB, h.oX.later hB, h.oN.later hB, below_to h.bl hB, h.lr, h.lp⟩
theorem DcM.read (h : DcM w w' gr gp v t enc vX vN X N) (hk : Blk w'' gr 74 (rrc v t')) (hu : Upd (fun k => k = gr) w' w'') : DcM w w'' gr gp v t' enc vX vN X N :=
  ⟨hk, h.pr.upd hu (blk_nt h.pr h.rd (by decide)), h.rs.upd hu (blk_nt h.rs h.rd (by decide)), ownS_upd h.oX hu (fun k e hk => by subst hk; exact notC h.oX h.rd (by decide) e), h.oN.upd hu (fun k e hk => by subst hk; exact notI h.oN h.rd (by decide) e), h.bl.trans (hu.below _ h.bl.size (fun k hk => by subst hk; exact h.lr)), h.lr, h.lp⟩
theorem DcM.pushN (h : DcM w w' gr gp v t enc vX vN X N) (x : Int) (hl : N.length ≤ 1048576) : ∃ g cap w'', (Builtin.append_ #[24, 24] 24 #[vN, .slice (some ⟨w'.heap.size, 0, none⟩) 1 1]).run Tryd.prog (w'.alloc (.cells #[.int .i64 x] 3)) = .ok (.slice (some ⟨g, 0, none⟩) (N.length + 1) cap) w'' ∧ w''.cell? ⟨gp, 2, none⟩ = some vN ∧ w''.frozen? ⟨gp, 2, none⟩ = false ∧ DcM w (w''.setCell ⟨gp, 2, none⟩ (.slice (some ⟨g, 0, none⟩) (N.length + 1) cap)) gr gp v t enc vX (.slice (some ⟨g, 0, none⟩) (N.length + 1) cap) X (N ++ [x]) := by
  obtain ⟨g, cap, w'', h1, h2, h3, h4⟩ := h.oN.push x (by omega) h.bl.size
  have pr1 := h.pr.upd h3 (fun q => notI h.oN h.pr (by decide) q)
  have rs1 := h.rs.upd h3 (fun q => notI h.oN h.rs (by decide) q)
  have rd1 := h.rd.upd h3 (fun q => notI h.oN h.rd (by decide) q)
  have oX1 : COwn w'' w.heap.size vX X := ownS_upd h.oX h3 (fun k q hk => notIC h.oN h.oX k hk q)
  have hu : Upd (fun k => k = gp) w'' (w''.setCell ⟨gp, 2, none⟩ (.slice (some ⟨g, 0, none⟩) (N.length + 1) cap)) := (Upd.refl (fun k => k = gp) w'').set ⟨gp, 2, none⟩ _ (.inl rfl)
  have bl1 := h.bl.trans (h3.below _ h.bl.size (fun k hk => (h.oN.lies hk).1))
  have hlp := h.lp
  refine ⟨g, cap, w'', h1, pr1.cell 2, pr1.frozen 2, rd1.upd hu (blk_nt rd1 pr1 (by decide)), ?_, rs1.upd hu (by omega), ownS_upd oX1 hu (fun k e hk => by subst hk; exact notC oX1 pr1 (by decide) e), IOwn.upd h2 hu (fun k e hk => by subst hk; exact notI h2 pr1 (by decide) e), bl1.trans (hu.below _ bl1.size (fun k hk => by omega)), h.lr, h.lp⟩
  have := pr1.set 2 (.slice (some ⟨g, 0, none⟩) (N.length + 1) cap)
  simpa using this
theorem DcM.pushX (h : DcM w w' gr gp v t enc vX vN X N) (x : In) (hl : X.length ≤ 1048576) : ∃ g cap w'', (Builtin.append_ #[23, 23] 23 #[vX, .slice (some ⟨w'.heap.size, 0, none⟩) 1 1]).run Tryd.prog (w'.alloc (.cells #[.int .i64 x.op, .int .i64 x.a, .int .i64 x.b, .int .i64 x.c] 28)) = .ok (.slice (some ⟨g, 0, none⟩) (X.length + 1) cap) w'' ∧ w''.cell? ⟨gp, 1, none⟩ = some vX ∧ w''.frozen? ⟨gp, 1, none⟩ = false ∧ DcM w (w''.setCell ⟨gp, 1, none⟩ (.slice (some ⟨g, 0, none⟩) (X.length + 1) cap)) gr gp v t enc (.slice (some ⟨g, 0, none⟩) (X.length + 1) cap) vN (X ++ [x]) N := by
  obtain ⟨g, cap, w'', h1, h2, h3, h4⟩ := h.oX.push x (by omega) h.bl.size
  have pr1 := h.pr.upd h3 (fun q => notC h.oX h.pr (by decide) q)
  have rs1 := h.rs.upd h3 (fun q => notC h.oX h.rs (by decide) q)
  have rd1 := h.rd.upd h3 (fun q => notC h.oX h.rd (by decide) q)
  have oN1 : IOwn w'' w.heap.size vN N := h.oN.upd h3 (fun k q hk => notIC h.oN h.oX k q hk)
  have hu : Upd (fun k => k = gp) w'' (w''.setCell ⟨gp, 1, none⟩ (.slice (some ⟨g, 0, none⟩) (X.length + 1) cap)) := (Upd.refl (fun k => k = gp) w'').set ⟨gp, 1, none⟩ _ (.inl rfl)
  have bl1 := h.bl.trans (h3.below _ h.bl.size (fun k hk => (World.ownsRow.lt h.oX k hk).1))
  have hlp := h.lp
  refine ⟨g, cap, w'', h1, pr1.cell 1, pr1.frozen 1, rd1.upd hu (blk_nt rd1 pr1 (by decide)), ?_, rs1.upd hu (by omega), ownS_upd h2 hu (fun k e hk => by subst hk; exact notC h2 pr1 (by decide) e), oN1.upd hu (fun k e hk => by subst hk; exact notI oN1 pr1 (by decide) e), bl1.trans (hu.below _ bl1.size (fun k hk => by omega)), h.lr, h.lp⟩
  have := pr1.set 1 (.slice (some ⟨g, 0, none⟩) (X.length + 1) cap)
  simpa using this
end
/-- What the document's Decode answers. -/
def DeTo (l : List Int) (w : World) (e : Ending) (w' : World) : Prop := ∃ vX vN, e = .returned (.tuple #[.agg #[.bool (decE l), vX, vN], .int .i64 (decF l).1, .int .i64 (decF l).2]) ∧ Hid (COwn w' w.heap.size vX (decC l)) ∧ Hid (IOwn w' w.heap.size vN (decN l)) ∧ Below w.heap.size w w'
theorem retPii {fn : Func} {p a b : Tmp} (h : fn.results = #[.cell p 26, .tmp a, .tmp b]) {R : Ending → World → Prop} {tmps : Array Value} {g : Nat} {w : World} {x y z u v : Value} (hp : tmps.getD p undef = .pointer (some ⟨g, 0, none⟩)) (ha : tmps.getD a undef = u) (hb : tmps.getD b undef = v) (hK : Blk w g 26 [x, y, z]) (hR : R (.returned (.tuple #[.agg #[x, y, z], u, v])) w) :
    bodyPost Tryd.prog fn R Exit.ret ⟨tmps, []⟩ w := by
  refine bodyPost_ret (v := .tuple #[.agg #[x, y, z], u, v]) ?_ rfl hR
  have hl := run_loadVar_row w g 26 26 #[x, y, z] (0, 0) _ (show w.heap[g]? = some (.cells #[x, y, z] 26 (0, 0)) from hK) Tryd.underlying26 rfl (by show _ = some 3; kernel_rfl)
  have hp' : tmps[p]?.getD undef = .pointer (some ⟨g, 0, none⟩) := by simpa using hp
  have ha' : tmps[a]?.getD undef = u := by simpa using ha
  have hb' : tmps[b]?.getD undef = v := by simpa using hb
  simp only [results, h]
  simp [hp', ha', hb', asAddr, hl]
end Go.Proofs.YtjojbfendkodgaaDoor
/- Code, plain: what is read, in its cases. -/
namespace Go.Proofs.YtjojbfendkodgaaDoor
open Go.RowKit
set_option linter.unusedVariables false

theorem rdC_val (l : List Int) (s : Rs) (hb : Bys l) : ∃ n : Nat, n ≤ 1048576 ∧ (rdV l s 4 mayC).1 = (n : Int) ∧ wrap64 (rdV l s 4 (mayM 1048576)).1 = (n : Int) := by
  have h64 := get_u64 (getF_R (l.drop s.at_)) (hb.drop s.at_)
  have : 0 ≤ (rdV l s 4 (mayM 1048576)).1 ∧ (rdV l s 4 (mayM 1048576)).1 ≤ 1048576 := by
    unfold rdV
    repeat' split
    all_goals
      first
        | (rename_i h; simp only; unfold mayM at h; have := of_decide_eq_true h; omega)
        | (simp only; omega)
  have e : rdV l s 4 mayC = rdV l s 4 (mayM 1048576) := rfl
  refine ⟨(rdV l s 4 (mayM 1048576)).1.toNat, by omega, by rw [e]; omega, ?_⟩
  rw [w64 _ (by omega)]; omega
/-- So much was read of so many. -/
structure RdR {α : Type} (f : Rs → α × Rs) (r : List Int × List α × Rs) (j : Nat) (s : Rs) (N : List α) : Prop where
  st : r.2.2 = (rdM f j s).2.2
  ls : s.e = 0 → r.2.1 = N ++ (rdM f j s).2.1
theorem RdR.begin {α : Type} (f : Rs → α × Rs) (n : Nat) (s : Rs) : RdR f (rdM f n s) n s [] := ⟨rfl, fun _ => rfl⟩
theorem RdR.step {α : Type} {f : Rs → α × Rs} {r : List Int × List α × Rs} {j : Nat} {s : Rs} {N : List α} (h : RdR f r (j + 1) s N) (he : s.e = 0) {x : α} (hx : (f s).2.e = 0 → x = (f s).1) : RdR f r j (f s).2 (N ++ [x]) := by
  have h1 := h.st
  have h2 := h.ls he
  rw [rdM, if_pos he] at h1 h2
  refine ⟨h1, fun hq => ?_⟩
  rw [h2, hx hq]
  simp
theorem RdR.fin {α : Type} {f : Rs → α × Rs} {r : List Int × List α × Rs} {j : Nat} {s : Rs} {N : List α} (h : RdR f r j s N) (hd : j = 0 ∨ s.e ≠ 0) : r.2.2 = s ∧ (s.e = 0 → r.2.1 = N) := by
  rcases hd with rfl | he
  · exact ⟨h.st, fun q => by rw [h.ls q]; simp [rdM]⟩
  · exact ⟨by rw [h.st, rdM_stop _ _ _ he], fun q => absurd q he⟩
theorem tl_is {l : List Int} {enc : Bool} {n m : Nat} {s1 sN s4 s : Rs} (hT : pgm l = tlP l enc ⟨2, 0, 0⟩) (h1 : rdV l ⟨2, 0, 0⟩ 4 mayC = ((n : Int), s1)) (h2 : (rdM (rdN l) n s1).2.2 = sN) (h4 : rdV l sN 4 mayC = ((m : Int), s4)) (h3 : (rdM (rdI l enc) m s4).2.2 = s) : pgm l = ⟨enc, (rdM (rdN l) n s1).1, (rdM (rdN l) n s1).2.1, (rdM (rdI l enc) m s4).1, (rdM (rdI l enc) m s4).2.1, if s.at_ < l.length then rfs s 124 s.at_ else s⟩ := by
  rw [hT]
  unfold tlP
  simp only [h1, Int.toNat_natCast, h2, h4, h3]
theorem tl_err {l : List Int} {enc : Bool} {ea E ca : List Int} {C : List In} {s : Rs} (hp : pgm l = ⟨enc, ea, E, ca, C, if s.at_ < l.length then rfs s 124 s.at_ else s⟩) (he : s.e ≠ 0) : decF l = (s.e, s.p) := by
  have e : (if s.at_ < l.length then rfs s 124 s.at_ else s) = s := by
    split
    · unfold rfs; rw [if_neg he]
    · rfl
  rw [e] at hp
  unfold decF
  rw [hp, if_pos he]
theorem tl_over {l : List Int} {enc : Bool} {ea E ca : List Int} {C : List In} {s : Rs} (hp : pgm l = ⟨enc, ea, E, ca, C, if s.at_ < l.length then rfs s 124 s.at_ else s⟩) (he : s.e = 0) (hl : s.at_ < l.length) : decF l = (124, (s.at_ : Int)) := by
  have e : (if s.at_ < l.length then rfs s 124 s.at_ else s) = ⟨s.at_, 124, s.at_⟩ := by
    rw [if_pos hl]; unfold rfs; rw [if_pos he]
  rw [e] at hp
  unfold decF
  rw [hp, if_pos (by show (124 : Int) ≠ 0; decide)]
theorem tl_good {l : List Int} (hb : Bys l) {enc : Bool} {n m : Nat} {s1 sN s4 s : Rs} (hl2 : 2 ≤ l.length) (h1 : rdV l ⟨2, 0, 0⟩ 4 mayC = ((n : Int), s1)) (h2 : (rdM (rdN l) n s1).2.2 = sN) (h4 : rdV l sN 4 mayC = ((m : Int), s4)) (h3 : (rdM (rdI l enc) m s4).2.2 = s) (he : s.e = 0) : sN.e = 0 ∧ (rdM (rdN l) n s1).1 = posL entB (p0L (rdM (rdN l) n s1).2.1) (rdM (rdN l) n s1).2.1 ∧ (rdM (rdI l enc) m s4).1 = posL insB (p1L (rdM (rdI l enc) m s4).2.1 (rdM (rdN l) n s1).2.1) (rdM (rdI l enc) m s4).2.1 ∧ (∀ x ∈ (rdM (rdN l) n s1).2.1, 0 ≤ x ∧ x ≤ 2147483648) ∧ (∀ x ∈ (rdM (rdI l enc) m s4).2.1, OkI enc x) := by
  have bn : ∀ s, (rdN l s).2.e = 0 → s.e = 0 ∧ l.drop s.at_ = entB (rdN l s).1 ++ l.drop (rdN l s).2.at_ := fun s h => by
    obtain ⟨a, -, -, d⟩ := rdV_back hb (er := 3) (may := mayN) (by decide) h
    exact ⟨a, d⟩
  have bi : ∀ s, (rdI l enc s).2.e = 0 → s.e = 0 ∧ l.drop s.at_ = insB (rdI l enc s).1 ++ l.drop (rdI l enc s).2.at_ := fun s h => rdI_back hb h
  have a1 : s1.at_ ≤ l.length := by have := rdV_at l ⟨2, 0, 0⟩ 4 mayC hl2; rw [h1] at this; exact this
  have aN : sN.at_ ≤ l.length := by rw [← h2]; exact rdM_at l _ (fun s h => rdN_at l s h) n s1 a1
  have a4 : s4.at_ ≤ l.length := by have := rdV_at l sN 4 mayC aN; rw [h4] at this; exact this
  obtain ⟨e4, lm, -⟩ := rdM_back bi m s4 (by rw [h3]; exact he)
  obtain ⟨eN, -, -, dN⟩ := rdV_back hb (s := sN) (er := 4) (may := mayC) (by decide) (by rw [h4]; exact e4)
  obtain ⟨e1, ln, -⟩ := rdM_back bn n s1 (by rw [h2]; exact eN)
  obtain ⟨-, -, -, d1⟩ := rdV_back hb (s := ⟨2, 0, 0⟩) (er := 4) (may := mayC) (by decide) (by rw [h1]; exact e1)
  obtain ⟨pE, qE⟩ := rdM_pos (g := entB) (fun s _ h => bn s h) (fun s h => rdN_at l s h) n s1 a1 (by rw [h2]; exact eN)
  obtain ⟨pC, -⟩ := rdM_pos (g := insB) (fun s _ h => bi s h) (fun s h => rdI_at l enc s h) m s4 a4 (by rw [h3]; exact he)
  rw [h4] at dN
  rw [h1] at d1
  have k1 := congrArg List.length d1
  have k4 := congrArg List.length dN
  simp only [List.length_append, List.length_drop, Int.toNat_natCast] at k1 k4
  rw [h2] at qE
  have p1 : s1.at_ = p0L (rdM (rdN l) n s1).2.1 := by unfold p0L; rw [ln]; omega
  have p4 : s4.at_ = p1L (rdM (rdI l enc) m s4).2.1 (rdM (rdN l) n s1).2.1 := by unfold p1L; rw [← p1, lm]; omega
  exact ⟨eN, by rw [← p1]; exact pE, by rw [← p4]; exact pC, rdM_mem (fun s _ => rdN_in hb s) n s1 (by rw [h2]; exact eN), rdM_mem (fun s h => rdI_ok2 hb h) m s4 (by rw [h3]; exact he)⟩
theorem tl_dec {l : List Int} {enc : Bool} {ea E ca : List Int} {C : List In} {s : Rs} (hp : pgm l = ⟨enc, ea, E, ca, C, s⟩) (he : s.e = 0) : decF l = if (chk enc C E).1 = 0 then (0, 0) else if (chk enc C E).1 = 140 then (140, ca.getD (chk enc C E).2.toNat 0) else ((chk enc C E).1, ea.getD (chk enc C E).2.toNat 0) := by
  unfold decF
  rw [hp, if_neg (by simpa using he)]
end Go.Proofs.YtjojbfendkodgaaDoor
/- Code: the document's Decode. -/
namespace Go.Proofs.YtjojbfendkodgaaDoor
open Go.RowKit
set_option linter.unusedVariables false

theorem de_no {l : List Int} {w w' : World} {er p : Int} (h : decF l = (er, p)) (he : er ≠ 0) (hB : Below w.heap.size w w') : DeTo l w (.returned (.tuple #[.agg #[.bool false, .slice none 0 0, .slice none 0 0], .int .i64 er, .int .i64 p])) w' := by
  have h1 : ¬ (decF l).1 = 0 := by rw [h]; exact he
  refine ⟨.slice none 0 0, .slice none 0 0, ?_, hide_ ?_, hide_ ?_, hB⟩
  · unfold decE; rw [if_neg h1, h]
  · unfold decC; rw [if_neg h1]; exact COwn.nil _ _
  · unfold decN; rw [if_neg h1]; exact IOwn.nil _ _
theorem de_ret {l : List Int} {w w' : World} {er q : Int} {tmps : Array Value} {p a b : Tmp} (hfn : Tryd.f19.results = #[.cell p 26, .tmp a, .tmp b]) (hp : tmps.getD p undef = .pointer (some ⟨w.heap.size, 0, none⟩)) (ha : tmps.getD a undef = .int .i64 er) (hb : tmps.getD b undef = .int .i64 q) (hK : Blk w' w.heap.size 26 [.bool false, .slice none 0 0, .slice none 0 0]) (hB : Below w.heap.size w w') (h : decF l = (er, q)) (he : er ≠ 0) :
    bodyPost Tryd.prog Tryd.f19 (DeTo l w) Exit.ret ⟨tmps, []⟩ (((w'.setCell ⟨w.heap.size, 0, none⟩ (.bool false)).setCell ⟨w.heap.size, 1, none⟩ (.slice none 0 0)).setCell ⟨w.heap.size, 2, none⟩ (.slice none 0 0)) :=
  retPii hfn hp ha hb (setP hK _ _ _) (de_no h he (below_wr3 hB (by omega) _ _ _))
theorem iown_open {w : World} {B : Nat} {v : Value} {l : List Int} (h : IOwn w B v l) (h0 : 0 < l.length) : ∃ g c, v = .slice (some ⟨g, 0, none⟩) l.length c ∧ B ≤ g ∧ ∀ i, i < l.length → w.cell? ⟨g, i, none⟩ = some (.int .i64 (l.getD i 0)) := by
  obtain ⟨a, c, rfl, h1, h2, h3, h4, h5⟩ := own_open h rfl
  obtain ⟨g, rfl, a1, a2, -, -⟩ := h5 h0
  obtain ⟨b, off, e, -, hc⟩ := h1.open h0
  injection e with e
  injection e with e1 e2
  subst e1
  subst e2
  exact ⟨_, c, rfl, a1, fun i hi => by have := hc i hi; rw [Nat.zero_add] at this; exact this⟩
theorem de_good {l : List Int} {w w' : World} {gr gp : Nat} {v : Value} {t : Rs} {enc : Bool} {vX vN : Value} {X : List In} {N : List Int} {tmps : Array Value} {p a b : Tmp} (hfn : Tryd.f19.results = #[.cell p 26, .tmp a, .tmp b]) (hp : tmps.getD p undef = .pointer (some ⟨w.heap.size, 0, none⟩)) (ha : tmps.getD a undef = .int .i64 0) (hb : tmps.getD b undef = .int .i64 0) (h : DcM w w' gr gp v t enc vX vN X N) (hd : decF l = (0, 0)) (h1 : decE l = enc) (h2 : decC l = X) (h3 : decN l = N) :
    bodyPost Tryd.prog Tryd.f19 (DeTo l w) Exit.ret ⟨tmps, []⟩ (((w'.setCell ⟨w.heap.size, 0, none⟩ (.bool enc)).setCell ⟨w.heap.size, 1, none⟩ vX).setCell ⟨w.heap.size, 2, none⟩ vN) := by
  refine retPii hfn hp ha hb (setP h.rs _ _ _) ?_
  have hU := upd3 w' w.heap.size (.bool enc) vX vN
  refine ⟨vX, vN, by rw [hd, h1], hide_ ?_, hide_ ?_, below_wr3 h.bl (by omega) _ _ _⟩
  · rw [h2]; exact ownS_upd h.oX hU (fun k e hk => by subst hk; exact notC h.oX h.rs (by decide) e)
  · rw [h3]; exact h.oN.upd hU (fun k e hk => by subst hk; exact notI h.oN h.rs (by decide) e)
set_option maxRecDepth 100000 in
set_option maxHeartbeats 8000000 in
theorem rdecode_any (av : Option Addr) (cv : Nat) (l : List Int) (w : World) (hlc : l.length ≤ cv) (hcv : cv ≤ 9223372036854775000) (hnil : av = none → cv = 0) (hby : Hid (Bys l)) (hrow : Hid (Row .u8 w av l)) :
    Calls Tryd.prog 19 #[.slice av l.length cv] w (DeTo l w) := by
  obtain ⟨w1, hw1⟩ : ∃ wx, wx = w.alloc (.cells #[.bool false, .slice none 0 0, .slice none 0 0] 26) := ⟨_, rfl⟩
  have HB1 : Hid (Below w.heap.size w w1) := hide_ (by rw [hw1]; exact below1 _ _)
  have K1 : Hid (Blk w1 w.heap.size 26 [.bool false, .slice none 0 0, .slice none 0 0]) := hide_ (by rw [hw1]; exact Blk.newA w _ _)
  have z0 := K1.out.cell 0; have z1 := K1.out.cell 1; have z2 := K1.out.cell 2
  have zf := fun i => K1.out.frozen i
  simp at z0 z1 z2
  have HR1 := hide_ (hrow.out.later HB1.out)
  go_enter Tryd.func19, Tryd.ntmps19
  go_upto_region 2 with fail
  rw [← hw1]
  clear hw1
  go_loopw [5] (fun x5 wr => ∃ (i : Nat), i ≤ 2 ∧ x5 = .int .i64 (i : Int) ∧ w1 = wr ∧ (0 < i → 0 < l.length ∧ l.getD 0 0 = 109) ∧ (1 < i → 1 < l.length ∧ ¬ 1 < l.getD 1 0)) (fun x5 _ => 2 - (intOf x5).toNat)
  case atStart => exact ⟨0, by omega, rfl, rfl, fun h => by omega, fun h => by omega⟩
  case round =>
    obtain ⟨i, hi, rfl, rfl, h0, h1⟩ := hrel
    have h3 : i = 0 ∨ i = 1 ∨ i = 2 := by omega
    rcases h3 with rfl | rfl | rfl
    · by_cases hl : l.length = 0
      · --<C
        have HD := hide_ (hd_0 hl)
        have hll : (l.length : Int) = 0 := by omega
        go_wp2_with fail
        exact de_ret rfl rfl rfl rfl K1.out HB1.out HD.out (by decide)
      · obtain ⟨b, off, rfl, -, hc⟩ := HR1.out.open (by omega)
        have c0 := hc 0 (by omega)
        rw [Nat.add_zero] at c0
        have hll : ¬ (l.length : Int) ≤ 0 := by omega
        clear hc
        by_cases hm : l.getD 0 0 = 109
        · --<D
          have hb : (l.getD 0 0 != 109) = false := by rw [hm]; rfl
          go_wp2_with fail
          go_roundw
          case rel => exact ⟨1, by omega, by go_num, trivial, fun _ => ⟨by omega, hm⟩, fun h => by omega⟩
          case measure => simp [intOf]
        · --<E
          have hb : (l.getD 0 0 != 109) = true := by simpa using hm
          have HD := hide_ (hd_1 (by omega) hm)
          go_wp2_with fail
          exact de_ret rfl rfl rfl rfl K1.out HB1.out HD.out (by decide)
    · obtain ⟨h0a, h0b⟩ := h0 (by omega)
      by_cases hl : l.length = 1
      · --<F
        have HD := hide_ (hd_2 hl h0b)
        have hll : (l.length : Int) = 1 := by omega
        go_wp2_with fail
        exact de_ret rfl rfl rfl rfl K1.out HB1.out HD.out (by decide)
      · obtain ⟨b, off, rfl, -, hc⟩ := HR1.out.open (by omega)
        have c1 := hc 1 (by omega)
        have hll : ¬ (l.length : Int) ≤ 1 := by omega
        have hll2 : (1 : Int) < (l.length : Int) := by omega
        clear hc
        have HI := hide_ (fun hm => hd_3 (l := l) (by omega) h0b hm)
        have HJ : Hid (∀ i : Nat, i = 2 → ¬ 1 < l.getD 1 0 → (0 < i → 0 < l.length ∧ l.getD 0 0 = 109) ∧ (1 < i → 1 < l.length ∧ ¬ 1 < l.getD 1 0)) := hide_ (fun i hi hm => ⟨fun _ => ⟨h0a, h0b⟩, fun _ => ⟨by omega, hm⟩⟩)
        clear h0b h0 h1
        generalize l.getD 1 0 = y at *
        by_cases hm : 1 < y
        · --<G
          have HD := hide_ (HI.out hm)
          go_wp2_with fail
          exact de_ret rfl rfl rfl rfl K1.out HB1.out HD.out (by decide)
        · --<H
          go_wp2_with fail
          go_roundw
          case rel => exact ⟨2, by omega, by go_num, trivial, HJ.out 2 rfl hm⟩
          case measure => simp [intOf]
    · obtain ⟨h0a, h0b⟩ := h0 (by omega)
      obtain ⟨h1a, h1b⟩ := h1 (by omega)
      obtain ⟨b, off, hav, -, hc⟩ := HR1.out.open (by omega)
      obtain ⟨b', off', hav', hbl, -⟩ := hrow.out.open (by omega)
      have c1 := hc 1 (by omega)
      have HT := hide_ (hd_4 hby.out h1a h0b h1b)
      have hs0 : 2 ≤ l.length := by omega
      subst hav
      have hbb : b < w.heap.size := by injection hav' with q; injection q with q1 q2; omega
      have hll2 : (1 : Int) < (l.length : Int) := by omega
      clear hc h0 h1 h0b h1b h0a h1a hav' hbl hnil hi
      generalize l.getD 1 0 = y at *
      obtain ⟨enc, henc⟩ : ∃ e, (y == 1) = e := ⟨_, rfl⟩
      rw [henc] at HT
      obtain ⟨v, hv⟩ : ∃ v, v = Value.slice (some ⟨b, off, none⟩) l.length cv := ⟨_, rfl⟩
      obtain ⟨w2, hw2⟩ : ∃ wx, wx = (w1.alloc (.cells #[.bool (y == 1), .slice none 0 0, .slice none 0 0] 26)).alloc (.cells #[.slice (some ⟨b, off, none⟩) l.length cv, .int .i64 2, .int .i64 0, .int .i64 0] 74) := ⟨_, rfl⟩
      obtain ⟨kp, kr⟩ := blk2 w1 #[.bool (y == 1), .slice none 0 0, .slice none 0 0] #[.slice (some ⟨b, off, none⟩) l.length cv, .int .i64 2, .int .i64 0, .int .i64 0] 26 74
      rw [← hw2, henc] at kp
      rw [← hw2] at kr
      have hB2 : Below w1.heap.size w1 w2 := by rw [hw2]; exact below2 _ _ _
      have hlt1 := K1.out.lt
      rw [henc] at hw2
      have HM2 : Hid (DcM w w2 (w1.heap.size + 1) w1.heap.size (.slice (some ⟨b, off, none⟩) l.length cv) ⟨2, 0, 0⟩ enc (.slice none 0 0) (.slice none 0 0) [] []) := hide_ ⟨kr, kp, K1.out.later hB2, COwn.nil _ _, IOwn.nil _ _, below_to HB1.out hB2, by omega, by omega⟩
      go_upto_region 10 with fail
      rw [← hw2]
      generalize hgp : w1.heap.size = gp at *
      obtain ⟨gr, hgr⟩ : ∃ x, gp + 1 = x := ⟨_, rfl⟩
      have hgb : b ≠ gr := by omega
      rw [hgr] at HM2
      have HNm := hide_ (rnumber_any gr (some ⟨b, off, none⟩) cv l ⟨2, 0, 0⟩ ⟨2, 0, 0⟩ 1048576 4 w2 (hide_ (Sim.refl _)) (by decide) hs0 hlc hcv (fun h => by cases h) hby (hide_ (hrow.out.later HM2.out.bl)) (hide_ HM2.out.rd))
      rw [hgr]
      clear hw2 kp kr hB2 hlt1 HB1 K1 z0 z1 z2 zf c1 henc hgr hll2 HR1
      go_wp2_with fail
      refine HNm.out.mono ?_
      rintro e w3 ⟨t1, rfl, HS1, KR3, hU3⟩
      obtain ⟨n, hn, hn1, hn2⟩ := rdC_val l ⟨2, 0, 0⟩ hby.out
      rw [hn2]
      have HM3 := hide_ (HM2.out.read KR3.out hU3.out)
      have hat1 := rdV_at l ⟨2, 0, 0⟩ 4 (mayM 1048576) hs0
      obtain ⟨s1, hs1⟩ : ∃ x, (rdV l ⟨2, 0, 0⟩ 4 (mayM 1048576)).2 = x := ⟨_, rfl⟩
      have HV1 : Hid (rdV l ⟨2, 0, 0⟩ 4 mayC = ((n : Int), s1)) := hide_ (by
        rw [← hs1, ← hn1]; rfl)
      rw [hs1] at HS1 hat1
      clear hs1 hn1 hn2 HNm HM2 KR3 hU3
      go_upto_region 11 with fail
      go_loopw [8] (fun x8 wr => ∃ (j : Nat) (t s : Rs) (vN : Value) (N : List Int), x8 = .int .i64 (j : Int) ∧ j + N.length ≤ 1048576 ∧ s.at_ ≤ l.length ∧ Hid (Sim t s) ∧ Hid (DcM w wr gr gp (.slice (some ⟨b, off, none⟩) l.length cv) t enc (.slice none 0 0) vN [] N) ∧ Hid (RdR (rdN l) (rdM (rdN l) n s1) j s N)) (fun x8 _ => (intOf x8).toNat)
      case atStart => exact ⟨n, t1, s1, _, [], by go_num, by simpa using hn, hat1, HS1, HM3, hide_ (RdR.begin _ _ _)⟩
      case round =>
        obtain ⟨j, t, s, vN, N, rfl, hjN, hat, HS, HM, HRR⟩ := hrel
        generalize wr = wq at *
        clear HM3 HS1 hat1
        have d2 := HM.out.rd.cell 2
        simp [rrc] at d2
        go_upto_region 11 with fail
        go_cut [64] from 56 to 64 (fun x64 wc => x64 = .bool (decide (0 < j) && (t.e == 0)) ∧ wq = wc)
        case first =>
          by_cases hj : 0 < j
          · have hj' : (0 : Int) < (j : Int) := by omega
            by_cases he : t.e = 0
            · have hb : (t.e == 0) = true := by simpa using he
              go_wp2_with fail
              go_meet
              case rel => simp [hj, he]
            · have hb : (t.e == 0) = false := by simpa using he
              go_wp2_with fail
              go_meet
              case rel => simp [hj, he]
          · have hj' : ¬ (0 : Int) < (j : Int) := by omega
            go_wp2_with fail
            go_meet
            case rel => simp [hj]
        case rest =>
        obtain ⟨rfl, rfl⟩ := hcut
        by_cases hgo : 0 < j ∧ t.e = 0
        · skip
          obtain ⟨k, rfl⟩ : ∃ k, j = k + 1 := ⟨j - 1, by omega⟩
          have hse : s.e = 0 := by rw [← HS.out.e]; exact hgo.2
          have hg : (decide (0 < k + 1) && (t.e == 0)) = true := by simp [hgo.2]
          rw [hg]
          have HNm := hide_ (rnumber_any gr (some ⟨b, off, none⟩) cv l t s 2147483648 3 wq HS (by decide) hat hlc hcv (fun h => by cases h) hby (hide_ (hrow.out.later HM.out.bl)) (hide_ HM.out.rd))
          have hv := (rdN_val l s hby.out).1
          have hatn := rdN_at l s hat
          have HRR2 := hide_ (HRR.out.step hse (x := (rdN l s).1) (fun _ => rfl))
          obtain ⟨O, hO⟩ : ∃ x, rdN l s = x := ⟨_, rfl⟩
          have hO' : rdV l s 3 (mayM 2147483648) = O := hO
          unfold RnTo at HNm
          rw [hO'] at HNm hv
          rw [hO] at HRR2 hatn
          rw [hv] at HNm
          clear hO hO' hv hg hgo
          go_wp2_with fail
          refine HNm.out.mono ?_
          rintro e w4 ⟨t', rfl, HS2, KR4, hU4⟩
          have HM4 := hide_ (HM.out.read KR4.out hU4.out)
          obtain ⟨g, cap, w6, hrun, hcl, hfz, hM6⟩ := HM4.out.pushN O.1 (by omega)
          have p2 := HM4.out.pr.cell 2
          simp at p2
          have HM6 := hide_ hM6
          have HR := hide_ hrun
          have hjk : k + (N ++ [O.1]).length ≤ 1048576 := by simp only [List.length_append, List.length_singleton]; omega
          generalize N ++ [O.1] = N2 at *
          generalize N.length + 1 = ln at *
          clear hrun hM6 KR4 hU4 HM HNm d2 HRR HS
          go_wp2_with (at_builtin; have _t := HR; refine wpList_append_run rfl (.tmp 70) (.tmp 72) 24 24 rfl rfl rfl HR.out ?_; clear HR)
          go_roundw
          case rel => exact ⟨k, t', O.2, _, N2, by go_num, hjk, hatn, HS2, HM6, HRR2⟩
          case measure => simp [intOf]
        · skip
          have hg : (decide (0 < j) && (t.e == 0)) = false := by
            by_cases h1 : 0 < j
            · have : ¬ t.e = 0 := fun q => hgo ⟨h1, q⟩
              simp [h1, this]
            · simp [h1]
          rw [hg]
          have hfin := HRR.out.fin (by
            by_cases h1 : 0 < j
            · exact .inr (fun q => hgo ⟨h1, by rw [HS.out.e]; exact q⟩)
            · exact .inl (by omega))
          have HF2 := hide_ hfin
          have hNl : N.length ≤ 1048576 := by omega
          clear hfin HRR hgo hg d2 hjN
          have HNm := hide_ (rnumber_any gr (some ⟨b, off, none⟩) cv l t s 1048576 4 wq HS (by decide) hat hlc hcv (fun h => by cases h) hby (hide_ (hrow.out.later HM.out.bl)) (hide_ HM.out.rd))
          go_wp2_with fail
          refine HNm.out.mono ?_
          rintro e w4 ⟨t4, rfl, HS4, KR4, hU4⟩
          obtain ⟨m, hm, hm1, hm2⟩ := rdC_val l s hby.out
          rw [hm2]
          have HM4 := hide_ (HM.out.read KR4.out hU4.out)
          have hat4 := rdV_at l s 4 (mayM 1048576) hat
          obtain ⟨s4, hs4⟩ : ∃ x, (rdV l s 4 (mayM 1048576)).2 = x := ⟨_, rfl⟩
          have HV4 : Hid (rdV l s 4 mayC = ((m : Int), s4)) := hide_ (by
            rw [← hs4, ← hm1]; rfl)
          rw [hs4] at HS4 hat4
          clear hs4 hm1 hm2 HNm HM KR4 hU4 HS
          go_upto_region 16 with fail
          go_loopw [10] (fun x10 wr => ∃ (j : Nat) (t s : Rs) (vX : Value) (X : List In), x10 = .int .i64 (j : Int) ∧ j + X.length ≤ 1048576 ∧ s.at_ ≤ l.length ∧ Hid (Sim t s) ∧ Hid (DcM w wr gr gp (.slice (some ⟨b, off, none⟩) l.length cv) t enc vX vN X N) ∧ Hid (RdR (rdI l enc) (rdM (rdI l enc) m s4) j s X)) (fun x10 _ => (intOf x10).toNat)
          case atStart => exact ⟨m, t4, s4, _, [], by go_num, by simpa using hm, hat4, HS4, HM4, hide_ (RdR.begin _ _ _)⟩
          case round =>
            clear HM4 HS4 hat4
            obtain ⟨j, t, s, vX, X, rfl, hjX, hat, HS, HM, HRR⟩ := hrel
            generalize wr = wq at *
            have d2 := HM.out.rd.cell 2
            simp [rrc] at d2
            go_upto_region 16 with fail
            go_cut [85] from 77 to 85 (fun x85 wc => x85 = .bool (decide (0 < j) && (t.e == 0)) ∧ wq = wc)
            case first =>
              by_cases hj : 0 < j
              · have hj' : (0 : Int) < (j : Int) := by omega
                by_cases he : t.e = 0
                · have hb : (t.e == 0) = true := by simpa using he
                  go_wp2_with fail
                  go_meet
                  case rel => simp [hj, he]
                · have hb : (t.e == 0) = false := by simpa using he
                  go_wp2_with fail
                  go_meet
                  case rel => simp [hj, he]
              · have hj' : ¬ (0 : Int) < (j : Int) := by omega
                go_wp2_with fail
                go_meet
                case rel => simp [hj]
            case rest =>
            obtain ⟨rfl, rfl⟩ := hcut
            by_cases hgo : 0 < j ∧ t.e = 0
            · skip
              obtain ⟨k, rfl⟩ : ∃ k, j = k + 1 := ⟨j - 1, by omega⟩
              have hse : s.e = 0 := by rw [← HS.out.e]; exact hgo.2
              have hg : (decide (0 < k + 1) && (t.e == 0)) = true := by simp [hgo.2]
              rw [hg]
              have HNm := hide_ (rinstr_any gr (some ⟨b, off, none⟩) cv l t s enc wq HS hat hlc hcv (fun h => by cases h) hby (hide_ (hrow.out.later HM.out.bl)) (hide_ (fun x hx _ => by injection hx with q; rw [← q]; exact hgb)) (hide_ HM.out.rd))
              have hatn := rdI_at l enc s hat
              have HRR2 : Hid (∀ x, ((rdI l enc s).2.e = 0 → x = (rdI l enc s).1) → RdR (rdI l enc) (rdM (rdI l enc) m s4) k (rdI l enc s).2 (X ++ [x])) := hide_ (fun x hx => HRR.out.step hse hx)
              have p0 := HM.out.pr.cell 0
              simp at p0
              clear hg hgo
              go_wp2_with fail
              refine HNm.out.mono ?_
              rintro e w5 ⟨t', x, rfl, HS2, HX2, KR5, hU5⟩
              have hM5 := HM.out.read KR5.out hU5.out
              have HR3 := hide_ (HRR2.out x HX2.out)
              generalize (rdI l enc s).2 = s' at *
              obtain ⟨w6, hw6⟩ : ∃ wx, wx = w5.alloc (.cells #[.int .i64 x.op, .int .i64 x.a, .int .i64 x.b, .int .i64 x.c] 28) := ⟨_, rfl⟩
              have hB6 : Below w5.heap.size w5 w6 := by rw [hw6]; exact below1 _ _
              have KX : Blk w6 w5.heap.size 28 [.int .i64 x.op, .int .i64 x.a, .int .i64 x.b, .int .i64 x.c] := by rw [hw6]; exact Blk.newA w5 _ _
              have HM6 := hide_ (hM5.later hB6)
              obtain ⟨g, cap, w8, hrun, hcl, hfz, hM8⟩ := HM6.out.pushX x (by omega)
              have p1 := HM6.out.pr.cell 1
              have x0 := KX.cell 0; have x1 := KX.cell 1; have x2 := KX.cell 2; have x3 := KX.cell 3
              simp at p1 x0 x1 x2 x3
              have HM8 := hide_ hM8
              have HR := hide_ hrun
              have hjk : k + (X ++ [x]).length ≤ 1048576 := by simp only [List.length_append, List.length_singleton]; omega
              generalize X ++ [x] = X2 at *
              generalize X.length + 1 = ln at *
              clear hrun hM8 KR5 hU5 HM HNm d2 HRR HS hM5 HRR2 HX2 hB6 KX p0
              go_upto_region 19 with fail
              rw [← hw6]
              clear hw6
              go_wp2_with (at_builtin; have _t := HR; refine wpList_append_run rfl (.tmp 93) (.tmp 95) 23 23 rfl rfl rfl HR.out ?_; clear HR)
              go_roundw
              case rel => exact ⟨k, t', s', _, X2, by go_num, hjk, hatn, HS2, HM8, HR3⟩
              case measure => simp [intOf]
            · skip
              have hg : (decide (0 < j) && (t.e == 0)) = false := by
                by_cases h1 : 0 < j
                · have : ¬ t.e = 0 := fun q => hgo ⟨h1, q⟩
                  simp [h1, this]
                · simp [h1]
              rw [hg]
              have hfin := HRR.out.fin (by
                by_cases h1 : 0 < j
                · exact .inr (fun q => hgo ⟨h1, by rw [HS.out.e]; exact q⟩)
                · exact .inl (by omega))
              have hXl : X.length ≤ 1048576 := by omega
              have HP := hide_ (tl_is HT.out HV1.out HF2.out.1 HV4.out hfin.1)
              have HF3 := hide_ hfin
              clear hfin HRR hgo hg hjX
              have d1 := HM.out.rd.cell 1; have d3 := HM.out.rd.cell 3
              have z0 := HM.out.rs.cell 0; have z1 := HM.out.rs.cell 1; have z2 := HM.out.rs.cell 2
              have zf := fun i => HM.out.rs.frozen i
              simp [rrc] at d1 d3 z0 z1 z2
              have hne1 : ¬ gr = w.heap.size := blk_nt HM.out.rd HM.out.rs (by decide)
              have hne2 : ¬ w.heap.size = gr := fun q => hne1 q.symm
              by_cases he : t.e = 0
              · obtain rfl := HS.out.ok (by rw [← HS.out.e]; exact he)
                have hb : (t.e != 0) = false := by simpa using he
                by_cases hlt : t.at_ < l.length
                · skip
                  have HD := hide_ (tl_over HP.out he hlt)
                  have hlt' : (t.at_ : Int) < (l.length : Int) := by omega
                  go_upto_region 23 with fail
                  go_region
                  all_goals
                    go_wp2_with fail
                    exact de_ret rfl rfl rfl rfl HM.out.rs.drew HM.out.bl.drew HD.out (by decide)
                · skip
                  obtain ⟨eN, pE, pC, iN, iX⟩ := tl_good hby.out hs0 HV1.out HF2.out.1 HV4.out HF3.out.1 he
                  have qN := HF2.out.2 eN
                  have qX := HF3.out.2 he
                  rw [qN] at pE iN pC
                  rw [qX] at pC iX
                  have hp := HP.out
                  rw [if_neg hlt, pE, pC, qN, qX] at hp
                  have hD := tl_dec hp he
                  have h3 := fun h h0 => chk_place_lt3 (enc := enc) (C := X) (E := N) hXl hNl h h0
                  have h140 := fun h => chk_place_lt (enc := enc) (C := X) (E := N) h
                  have HG : Hid (decF l = (0, 0) → decE l = enc ∧ decC l = X ∧ decN l = N) := hide_ (fun q => by
                    have q1 : (decF l).1 = 0 := by rw [q]
                    unfold decE decC decN
                    rw [if_pos q1, if_pos q1, if_pos q1, hp]
                    exact ⟨rfl, rfl, rfl⟩)
                  obtain ⟨ac, cc, rfl, -, -, hrX⟩ := HM.out.oX.row
                  obtain ⟨ae, ce, rfl, hrN, -, -⟩ := HM.out.oN.row
                  have p0 := HM.out.pr.cell 0; have p1 := HM.out.pr.cell 1; have p2 := HM.out.pr.cell 2
                  simp at p0 p1 p2
                  have HCk := hide_ (rcheck_any enc ac ae cc ce X N wq (by omega) (by omega) (hide_ hrX) (hide_ hrN))
                  have HLd : Hid (∀ w', Below wq.heap.size wq w' → Calls Tryd.prog 39 #[.agg #[.bool enc, .slice ac X.length cc, .slice ae N.length ce]] w' (LdTo enc X N w')) := hide_ (fun w' hB => laid_any enc ac ae cc ce X N w' hXl hNl (hide_ iN) (hide_ iX) (hide_ (hrX.later hB)) (hide_ (hrN.later hB)))
                  have lE := posL_len entB N (p0L N)
                  have lC := posL_len insB X (p1L X N)
                  unfold LdTo at HLd
                  generalize chk enc X N = ck at *
                  generalize posL entB (p0L N) N = PE at *
                  generalize posL insB (p1L X N) X = PC at *
                  obtain ⟨f, i⟩ := ck
                  simp only at hD h3 h140
                  have HDd := hide_ hD
                  have H3 := hide_ h3
                  have H140 := hide_ h140
                  have hlt' : ¬ (t.at_ : Int) < (l.length : Int) := by omega
                  clear hD h3 h140 hp qN qX pE pC iN iX hrX hrN HP HF3 HF2 HV1 HV4 HT eN
                  go_wp2_with fail
                  refine HCk.out.mono ?_
                  rintro e w5 ⟨rfl, hB5⟩
                  simp only
                  obtain ⟨w6, hw6⟩ : ∃ wx, wx = w5.alloc (.cells #[.int .i64 f, .int .i64 i] 32) := ⟨_, rfl⟩
                  have hB6 : Below w5.heap.size w5 w6 := by rw [hw6]; exact below1 _ _
                  have KF6 := hide_ (show Blk w6 w5.heap.size 32 [.int .i64 f, .int .i64 i] by rw [hw6]; exact Blk.newA w5 _ _)
                  have HB6 := hide_ (below_to hB5 hB6)
                  have HM6 := hide_ (HM.out.later HB6.out)
                  have p0 := HM6.out.pr.cell 0; have p1 := HM6.out.pr.cell 1; have p2 := HM6.out.pr.cell 2
                  simp at p0 p1 p2
                  have HLd6 := hide_ (HLd.out w6 HB6.out)
                  clear d1 d2 d3 z0 z1 z2 zf HLd HCk hB5 hB6 HM
                  go_upto_region 25 with fail
                  rw [← hw6]
                  clear hw6
                  generalize w5.heap.size = gf at *
                  go_wp2_with fail
                  refine HLd6.out.mono ?_
                  rintro e w7 ⟨vB, vE, vC, rfl, -, HoE, HoC, hB7⟩
                  have HM7 := hide_ (HM6.out.later hB7)
                  have KF7 := hide_ (KF6.out.later hB7)
                  have hrs := HM6.out.rs.lt
                  have f0 := KF7.out.cell 0; have f1 := KF7.out.cell 1
                  have q0 := HM7.out.pr.cell 0; have q1 := HM7.out.pr.cell 1; have q2 := HM7.out.pr.cell 2
                  have z0 := HM7.out.rs.cell 0; have z1 := HM7.out.rs.cell 1; have z2 := HM7.out.rs.cell 2
                  have zf := fun i => HM7.out.rs.frozen i
                  have hf1 : ¬ gf = w.heap.size := blk_nt KF7.out HM7.out.rs (by decide)
                  have hf2 : ¬ w.heap.size = gf := fun q => hf1 q.symm
                  simp at f0 f1 q0 q1 q2 z0 z1 z2
                  clear HM6 KF6 HLd6 p0 p1 p2 hB7 HB6
                  by_cases h0 : f = 0
                  · skip
                    subst h0
                    have HDz := hide_ (show decF l = (0, 0) by rw [HDd.out, if_pos rfl])
                    go_wp2_with fail
                    exact de_good rfl rfl rfl rfl HM7.out HDz.out (HG.out HDz.out).1 (HG.out HDz.out).2.1 (HG.out HDz.out).2.2
                  · by_cases h1 : f = 140
                    · skip
                      obtain ⟨ix, hix, hlx⟩ := H140.out h1
                      subst h1
                      subst hix
                      obtain ⟨g, c, rfl, hgl, hcell⟩ := iown_open HoC.out (by omega)
                      have cx := hcell ix (by omega)
                      have HDz := hide_ (show decF l = (140, PC.getD ix 0) by rw [HDd.out, if_neg (by decide), if_pos rfl]; rfl)
                      have hg1 : ¬ g = w.heap.size := by omega
                      have hg2 : ¬ w.heap.size = g := by omega
                      have hi1 : (ix : Int) < (PC.length : Int) := by omega
                      generalize PC.getD ix 0 = px at *
                      clear hcell
                      go_upto_region 31 with fail
                      go_region
                      all_goals
                        go_wp2_with fail
                        exact de_ret rfl rfl rfl rfl HM7.out.rs.drew HM7.out.bl.drew HDz.out (by decide)
                    · skip
                      obtain ⟨hf3, ix, hix, hlx⟩ := H3.out h1 h0
                      subst hf3
                      subst hix
                      obtain ⟨g, c, rfl, hgl, hcell⟩ := iown_open HoE.out (by omega)
                      have cx := hcell ix (by omega)
                      have HDz := hide_ (show decF l = (3, PE.getD ix 0) by rw [HDd.out, if_neg (by decide), if_neg (by decide)]; rfl)
                      have hg1 : ¬ g = w.heap.size := by omega
                      have hg2 : ¬ w.heap.size = g := by omega
                      have hi1 : (ix : Int) < (PE.length : Int) := by omega
                      generalize PE.getD ix 0 = px at *
                      clear hcell
                      go_upto_region 30 with fail
                      go_region
                      all_goals
                        go_wp2_with fail
                        exact de_ret rfl rfl rfl rfl HM7.out.rs.drew HM7.out.bl.drew HDz.out (by decide)
              · skip
                have hb : (t.e != 0) = true := by simpa using he
                have HD : Hid (decF l = (t.e, t.p)) := hide_ (by
                  have hs : ¬ t.e = 0 := he
                  rw [HS.out.e] at hs
                  rw [tl_err HP.out hs, HS.out.e, HS.out.no hs])
                go_upto_region 21 with fail
                go_region
                all_goals
                  go_wp2_with fail
                  exact de_ret rfl rfl rfl rfl HM.out.rs.drew HM.out.bl.drew HD.out he
end Go.Proofs.YtjojbfendkodgaaDoor
/- CodeReads: its walk. -/
namespace Go.Proofs.YtjojbfendkodgaaDoor
open Go.RowKit
set_option linter.unusedVariables false

theorem own_set1 {w : World} {B g n cap i : Nat} {e : TypeId} {k : IntKind} {l : List Int} (h : w.ownsRow B e 1 (.slice (some ⟨g, 0, none⟩) n cap) n (cellsL k l)) (hi : i < n) (x : Int) : (w.setCell ⟨g, i, none⟩ (.int k x)).ownsRow B e 1 (.slice (some ⟨g, 0, none⟩) n cap) n (cellsL k (l.set i x)) := by
  obtain ⟨g', cap', ys, e, hb, hn, hm, hys, ht, hk⟩ := ownS_blk h (by omega)
  injection e with e1 e2 e3
  injection e1 with e1
  injection e1 with e1 _ _
  subst e1 e3
  have hk2 := hk.set i (.int k x)
  have h2 := ownS_of_blk (B := B) (n := n) (c := 1) (cap := cap) hk2 hb (by simp [hys]) hn hm
  have e4 : (ys.set i (.int k x)).take (n * 1) = cellsL k (l.set i x) := by
    rw [List.take_set, ht]
    simp [cellsL, List.map_set]
  rw [← e4]
  exact h2
theorem IOwn.rowS {w : World} {l : List Int} {B n c : Nat} {a : Option Addr} (h : IOwn w B (.slice a n c) l) : Row .i64 w a l := by
  obtain ⟨a', c', e, hr, -, -⟩ := h.row
  injection e with e _ _
  subst e
  exact hr
theorem COwn.rowS {w : World} {l : List In} {B n c : Nat} {a : Option Addr} (h : COwn w B (.slice a n c) l) : IRow w a l := by
  obtain ⟨a', c', e, -, -, hr⟩ := h.row
  injection e with e _ _
  subst e
  exact hr
theorem dec_lens (l : List Int) (hb : Bys l) : (decC l).length ≤ 1000000000000 ∧ (decN l).length ≤ 1000000000000 := by
  obtain ⟨-, h1, -, h2⟩ := pgm_len l hb
  unfold decC decN
  constructor <;> split <;> first | (simp; done) | omega
theorem row_two {w : World} {g n : Nat} {lt : List Int} (h : Row .u8 w (some ⟨g, 0, none⟩) (lt ++ [90, 91])) (hl : lt.length = n) : w.cell? ⟨g, n, none⟩ = some (.int .u8 90) ∧ w.cell? ⟨g, n + 1, none⟩ = some (.int .u8 91) := by
  subst hl
  rcases h with ⟨h, _⟩ | ⟨x, hx, hc⟩
  · cases h
  · injection hx with hx
    subst hx
    have h1 := hc lt.length (by simp)
    have h2 := hc (lt.length + 1) (by simp)
    rw [add_none, Nat.zero_add] at h1 h2
    rw [h1, h2]
    constructor <;> simp [List.getD]
set_option maxRecDepth 100000 in
set_option maxHeartbeats 16000000 in
theorem reads_any (ab : Option Addr) (cb : Nat) (lb : List Int) (w : World) (hbn : ab = none → cb = 0) (hlb : lb.length ≤ cb) (hcb : cb ≤ 9223372036854775000) (hbr : Hid (Row .u8 w ab lb)) (hby : Hid (Bys lb)) (HT : Hid (TabB w.heap.size w)) :
    Calls Tryd.prog 8 #[.slice ab lb.length cb] w fun e w' => e = .returned (.bool true) ∧ Below w.heap.size w w' := by
  have HAw := hide_ (awake_any w HT)
  go_enter Tryd.func8, Tryd.ntmps8
  go_upto_region 3 with (go_at_call 9; refine HAw.out.mono ?_; rintro e w2 ⟨rfl, hB2⟩)
  obtain ⟨n, hn⟩ : ∃ n, n = min lb.length 3000 := ⟨_, rfl⟩
  have hmn : min (lb.length : Int) 3000 = (n : Int) := by omega
  have hnl : n ≤ lb.length := by omega
  have hn3 : n ≤ 3000 := by omega
  have hnc : (n : Int) ≤ (cb : Int) := by omega
  have hlt : (lb.take n).length = n := by rw [List.length_take]; omega
  have HLt := hide_ hlt
  have hrow : Row .u8 w2 ab (lb.take n) := (hbr.out.later hB2).take n
  have HBt := hide_ (hby.out.take n)
  obtain ⟨lt, hltn⟩ : ∃ x, lb.take n = x := ⟨_, rfl⟩
  rw [hltn] at hlt HLt hrow HBt
  obtain ⟨vA, wA, hrA, hoA, hgA⟩ := run_copy elU8 w2 34 w2.heap.size ab n cb lt hlt hrow hbn (by unfold maxLen; omega) (by omega) (Nat.le_refl _)
  have hBA : Below w2.heap.size w2 wA := ((Upd.refl (fun _ => False) w2).grown hgA (fun k hk => by cases hk)).below _ (Nat.le_refl _) (fun k hk => hk.elim)
  obtain ⟨wA', hwA⟩ : ∃ wx, wx = wA.alloc (.cells #[.int .u8 90, .int .u8 91] 5) := ⟨_, rfl⟩
  have hBA' : Below wA.heap.size wA wA' := by rw [hwA]; exact below1 _ _
  have hoA' : wA'.ownsRow w2.heap.size 5 1 vA n (cellsL .u8 lt) := owns_upd hoA (Upd.of_below (S := fun _ => False) hBA') (fun _ _ h => h)
  have hr2 : Row .u8 wA' (some ⟨wA.heap.size, 0, none⟩) [90, 91] := by rw [hwA]; exact Blk.row (l := [90, 91]) (Blk.newA wA _ _)
  obtain ⟨vB, wB, hrB, hoB, hgB⟩ := run_app elU8 wA' 34 w2.heap.size vA n lt hoA' (some ⟨wA.heap.size, 0, none⟩) 2 2 [90, 91] rfl hr2 (fun h => by cases h) (by unfold maxLen; omega) (by omega) (by have := hBA.size; have := hBA'.size; omega)
  have hBB : Below w2.heap.size wA' wB := ((Upd.refl (fun k => vA.ownBlock = some k) wA').grown hgB (fun k hk => .inl hk)).below _ (by have := hBA.size; have := hBA'.size; omega) (fun k hk => (World.ownsRow.lt hoA' k hk).1)
  have hlB : (lt ++ [90, 91]).length = n + 2 := by rw [List.length_append, hlt]; rfl
  obtain ⟨aB, cB, rfl, hrowB, hnB, hlcB, hmB, hgB2⟩ := own_open hoB hlB
  obtain ⟨gB, rfl, hgB3, hgB4, hcB, hfB⟩ := hgB2 (by omega)
  have htk : (lt ++ [90, 91]).take n = lt := by rw [← hlt, List.take_left']; rfl
  have hrowt : Row .u8 wB (some ⟨gB, 0, none⟩) lt := by have := hrowB.take n; rw [htk] at this; exact this
  have HD := decode_any (some ⟨gB, 0, none⟩) cB lt wB (by omega) (by omega) (fun h => by cases h) HBt (hide_ hrowt) (hide_ (fun x hx _ => by injection hx with hx; subst hx; exact hgB4))
  rw [hlt] at HD
  have HDd := hide_ HD
  have HBB := hide_ (below_to hB2 ((below_to hBA hBA').trans hBB))
  have HRA := hide_ hrA
  have HRB := hide_ hrB
  have HoB := hide_ hoB
  have HgB := hide_ (And.intro hgB3 hgB4)
  have HgW : Hid (w.heap.size ≤ gB) := hide_ (Nat.le_trans hB2.size hgB3)
  have hcn : (n : Int) ≤ (cB : Int) := by omega
  have hn2 : (n : Int) ≤ ((n + 2 : Nat) : Int) := by omega
  unfold maxLen at hmB
  clear HD hrA hrB hoA hgA hBA hoB hgB hBB hrowB hnB hgB2 hcB hfB htk hrowt hoA' hr2 hBA' hgB3 hgB4 hrow hlB hB2 HAw hn
  subst hwA
  go_upto_region 4 with fail
  go_upto_region 5 with (first
    | (at_builtin; have _t := HRA; refine wpList_append_run rfl (.const (.slice none 0 0)) (.tmp 17) 34 34 rfl rfl rfl HRA.out ?_; clear HRA)
    | (at_builtin; have _t := HRB; refine wpList_append_run rfl (.tmp 18) (.tmp 19) 34 34 rfl rfl rfl HRB.out ?_; clear HRB))
  go_wp2_with fail
  refine HDd.out.mono ?_
  rintro e w5 ⟨vX, vN, rfl, HoX, HoN, hB5⟩
  obtain ⟨aX, cX, rfl, -, -, -⟩ := HoX.out.row
  obtain ⟨aN, cN, rfl, -, -, -⟩ := HoN.out.row
  obtain ⟨w6, hw6⟩ : ∃ wx, wx = (w5.alloc (.cells #[.bool (decE lt), .slice aX (decC lt).length cX, .slice aN (decN lt).length cN] 26)).alloc (.cells #[.int .i64 (decF lt).1, .int .i64 (decF lt).2] 32) := ⟨_, rfl⟩
  have hB6 : Below w5.heap.size w5 w6 := by rw [hw6]; exact below2 _ _ _
  obtain ⟨kP, kF⟩ := blk2 w5 #[.bool (decE lt), .slice aX (decC lt).length cX, .slice aN (decN lt).length cN] #[.int .i64 (decF lt).1, .int .i64 (decF lt).2] 26 32
  rw [← hw6] at kP kF
  have HoX6 := hide_ (COwn.later HoX.out hB6)
  have HoN6 := hide_ (IOwn.later HoN.out hB6)
  have HB6 := hide_ (below_to HBB.out (below_to hB5 hB6))
  have HBB6 := hide_ (below_to hB5 hB6)
  have KP6 := hide_ kP
  have KF6 := hide_ kF
  have HRd := rdecode_any ab cb lt w6 (by omega) hcb hbn HBt (hide_ (by have := (hbr.out.later HB6.out).take n; rw [hltn] at this; exact this))
  rw [hlt] at HRd
  have HRr := hide_ HRd
  have Hgp : Hid (wB.heap.size ≤ w5.heap.size) := hide_ hB5.size
  clear HRd kP kF hB5 hB6 HoX HoN HDd
  go_upto_region 6 with fail
  rw [← hw6]
  clear hw6
  generalize w5.heap.size = gP at *
  unfold DeTo at HRr
  go_wp2_with fail
  refine HRr.out.mono ?_
  rintro e w7 ⟨vY, vM, rfl, HoY, HoM, hB7⟩
  obtain ⟨aY, cY, rfl, -, -, -⟩ := HoY.out.row
  obtain ⟨aM, cM, rfl, -, -, -⟩ := HoM.out.row
  obtain ⟨w8, hw8⟩ : ∃ wx, wx = w7.alloc (.cells #[.bool (decE lt), .slice aY (decC lt).length cY, .slice aM (decN lt).length cM] 26) := ⟨_, rfl⟩
  have hB8 : Below w7.heap.size w7 w8 := by rw [hw8]; exact below1 _ _
  have KQ8 := hide_ (show Blk w8 w7.heap.size 26 [.bool (decE lt), .slice aY (decC lt).length cY, .slice aM (decN lt).length cM] by rw [hw8]; exact Blk.newA w7 _ _)
  have hB68 := below_to hB7 hB8
  have HoX8 := hide_ (COwn.later HoX6.out hB68)
  have HoN8 := hide_ (IOwn.later HoN6.out hB68)
  have HoY8 := hide_ (COwn.later HoY.out hB8)
  have HoM8 := hide_ (IOwn.later HoM.out hB8)
  have KP8 := hide_ (KP6.out.later hB68)
  have KF8 := hide_ (KF6.out.later hB68)
  have HB8 := hide_ (below_to HB6.out hB68)
  have HBB8 := hide_ (below_to HBB6.out hB68)
  have HB66 := hide_ HBB6.out
  have Hgq : Hid (wB.heap.size ≤ w7.heap.size) := hide_ (Nat.le_trans HBB6.out.size hB7.size)
  clear hB68 hB7 hB8 HoX6 HoN6 HoY HoM KP6 KF6 HB6 HBB6 HBB HRr
  go_upto_region 7 with fail
  rw [← hw8]
  clear hw8
  generalize w7.heap.size = gQ at *
  have HlB : Hid ((lt ++ [90, 91]).length = n + 2) := hide_ (by rw [List.length_append, HLt.out]; rfl)
  have Htk : Hid ((lt ++ [90, 91]).take n = lt) := hide_ (by rw [← HLt.out, List.take_left']; rfl)
  have HBB8b := hide_ (below_to (Below.refl _ _) HBB8.out)
  have HOw : Hid (w8.ownsRow w2.heap.size 5 1 (.slice (some ⟨gB, 0, none⟩) (n + 2) cB) (n + 2) (cellsL .u8 (lt ++ [90, 91]))) := hide_ (owns_upd HoB.out (Upd.of_below (S := fun _ => False) HBB8.out) (fun _ _ h => h))
  have HSS : Hid (∀ w', Below w8.heap.size w8 w' → Below w8.heap.size w8 w' ∧ w'.cell? ⟨gP, 0, none⟩ = some (.bool (decE lt)) ∧ w'.cell? ⟨gP, 1, none⟩ = some (.slice aX (decC lt).length cX) ∧ w'.cell? ⟨gP, 2, none⟩ = some (.slice aN (decN lt).length cN) ∧ w'.cell? ⟨gP + 1, 0, none⟩ = some (.int .i64 (decF lt).1) ∧ w'.cell? ⟨gP + 1, 1, none⟩ = some (.int .i64 (decF lt).2) ∧ w'.cell? ⟨gQ, 0, none⟩ = some (.bool (decE lt)) ∧ w'.cell? ⟨gQ, 1, none⟩ = some (.slice aY (decC lt).length cY) ∧ w'.cell? ⟨gQ, 2, none⟩ = some (.slice aM (decN lt).length cM) ∧ (convert 34 9 (.slice (some ⟨gB, 0, none⟩) n cB)).run Tryd.prog w' = .ok (.string (strOfNums lt)) w' ∧ (convert 34 9 (.slice ab n cb)).run Tryd.prog w' = .ok (.string (strOfNums lt)) w' ∧ w'.cell? ⟨gB, n, none⟩ = some (.int .u8 90) ∧ w'.cell? ⟨gB, n + 1, none⟩ = some (.int .u8 91)) := hide_ (fun w' hb => by
    have ob : w'.ownsRow w2.heap.size 5 1 (.slice (some ⟨gB, 0, none⟩) (n + 2) cB) (n + 2) (cellsL .u8 (lt ++ [90, 91])) := owns_upd HOw.out (Upd.of_below (S := fun _ => False) hb) (fun _ _ h => h)
    obtain ⟨aa, ca, ea, hra, -, -, -, -⟩ := own_open ob HlB.out
    injection ea with ea1 ea2 ea3
    subst ea1
    have hrt := hra.take n
    rw [Htk.out] at hrt
    have hbb := (hbr.out.later (below_to HB8.out hb)).take n
    rw [hltn] at hbb
    exact ⟨hb, (KP8.out.later hb).cell 0, (KP8.out.later hb).cell 1, (KP8.out.later hb).cell 2, (KF8.out.later hb).cell 0, (KF8.out.later hb).cell 1, (KQ8.out.later hb).cell 0, (KQ8.out.later hb).cell 1, (KQ8.out.later hb).cell 2,
      conv_row elU8 Tryd.underlying9 w' _ n cB lt HLt.out hrt, conv_row elU8 Tryd.underlying9 w' ab n cb lt HLt.out hbb, (row_two hra HLt.out).1, (row_two hra HLt.out).2⟩)
  have hdl : (decC lt).length ≤ 1000000000000 ∧ (decN lt).length ≤ 1000000000000 := dec_lens lt HBt.out
  have HEq : Hid (∀ w', Below w8.heap.size w8 w' → Calls Tryd.prog 14 #[.agg #[.bool (decE lt), .slice aX (decC lt).length cX, .slice aN (decN lt).length cN], .agg #[.bool (decE lt), .slice aY (decC lt).length cY, .slice aM (decN lt).length cM]] w' fun e w'' => e = .returned (.bool true) ∧ Below w'.heap.size w' w'') := hide_ (fun w' hb => by
    have h := equal_any (decE lt) (decE lt) aX aY aN aM cX cY cN cM (decC lt) (decC lt) (decN lt) (decN lt) w' hdl.1 hdl.1 hdl.2 hdl.2 (hide_ ((HoX8.out.later hb).rowS)) (hide_ ((HoY8.out.later hb).rowS)) (hide_ ((HoN8.out.later hb).rowS)) (hide_ ((HoM8.out.later hb).rowS))
    rw [eqP_iff.2 ⟨rfl, rfl, rfl⟩] at h
    exact h)
  have HRq : Hid (∀ w', COwn w' wB.heap.size (.slice aX (decC lt).length cX) (decC lt) → COwn w' w6.heap.size (.slice aY (decC lt).length cY) (decC lt) → IOwn w' wB.heap.size (.slice aN (decN lt).length cN) (decN lt) → IOwn w' w6.heap.size (.slice aM (decN lt).length cM) (decN lt) → Calls Tryd.prog 17 #[.agg #[.bool (decE lt), .slice aX (decC lt).length cX, .slice aN (decN lt).length cN], .agg #[.bool (decE lt), .slice aY (decC lt).length cY, .slice aM (decN lt).length cM]] w' fun e w'' => e = .returned (.bool true) ∧ Below w'.heap.size w' w'') := hide_ (fun w' h1 h2 h3 h4 => by
    have h := requal_any (decE lt) (decE lt) aX aY aN aM cX cY cN cM (decC lt) (decC lt) (decN lt) (decN lt) w' (by omega) (by omega) (by omega) (by omega) (hide_ h1.rowS) (hide_ h2.rowS) (hide_ h3.rowS) (hide_ h4.rowS)
    rw [eqP_iff.2 ⟨rfl, rfl, rfl⟩] at h
    exact h)
  have HRp : Hid (∀ w', Below w8.heap.size w8 w' → Calls Tryd.prog 17 #[.agg #[.bool (decE lt), .slice aX (decC lt).length cX, .slice aN (decN lt).length cN], .agg #[.bool (decE lt), .slice aY (decC lt).length cY, .slice aM (decN lt).length cM]] w' fun e w'' => e = .returned (.bool true) ∧ Below w'.heap.size w' w'') := hide_ (fun w' hb => HRq.out w' (HoX8.out.later hb) (HoY8.out.later hb) (HoN8.out.later hb) (HoM8.out.later hb))
  have HIs : Hid (∀ w', Below w8.heap.size w8 w' → Calls Tryd.prog 10 #[.agg #[.int .i64 (decF lt).1, .int .i64 (decF lt).2], .int .i64 (decF lt).1, .int .i64 (decF lt).2] w' fun e w'' => e = .returned (.bool true) ∧ Below w'.heap.size w' w'') := hide_ (fun w' _ => by
    have h := is_any (decF lt).1 (decF lt).2 (decF lt).1 (decF lt).2 w'
    simpa using h)
  clear hdl
  generalize decE lt = dE at *
  generalize decC lt = dC at *
  generalize decN lt = dN at *
  generalize (decF lt).1 = f1 at *
  generalize (decF lt).2 = f2 at *
  have hx1 : (n : Int) < (n : Int) + 2 := by omega
  have hx2 : (n : Int) + 1 < (n : Int) + 2 := by omega
  have hx3 : IntKind.i64.wrap ((n : Int) + 1) = (n : Int) + 1 := by rw [IntKind.wrap_i64]; omega
  have hx4 : (0 : Int) ≤ (n : Int) + 1 := by omega
  generalize strOfNums lt = st at *
  go_cut [78] from 35 to 78 (fun x78 wc => ∃ wf, wf = wc ∧ x78 = .bool false ∧ Hid (Below w8.heap.size w8 wf))
  case first =>
    refine wp_region_held_drew (S := (fun w' => Below w8.heap.size w8 w' ∧ w'.cell? ⟨gP, 0, none⟩ = some (.bool dE) ∧ w'.cell? ⟨gP, 1, none⟩ = some (.slice aX dC.length cX) ∧ w'.cell? ⟨gP, 2, none⟩ = some (.slice aN dN.length cN) ∧ w'.cell? ⟨gP + 1, 0, none⟩ = some (.int .i64 f1) ∧ w'.cell? ⟨gP + 1, 1, none⟩ = some (.int .i64 f2) ∧ w'.cell? ⟨gQ, 0, none⟩ = some (.bool dE) ∧ w'.cell? ⟨gQ, 1, none⟩ = some (.slice aY dC.length cY) ∧ w'.cell? ⟨gQ, 2, none⟩ = some (.slice aM dN.length cM) ∧ (convert 34 9 (.slice (some ⟨gB, 0, none⟩) n cB)).run Tryd.prog w' = .ok (.string st) w' ∧ (convert 34 9 (.slice ab n cb)).run Tryd.prog w' = .ok (.string st) w' ∧ w'.cell? ⟨gB, n, none⟩ = some (.int .u8 90) ∧ w'.cell? ⟨gB, n + 1, none⟩ = some (.int .u8 91))) (by kernel_rfl) (HSS.out _ ((Below.refl w8.heap.size w8).drew)) (fun hHeld => ?_)
    refine wpAnyH_take (i := 0) (v := ?vg1) rfl (by kernel_rfl) (by kernel_rfl) (by kernel_rfl) (fun _ _ _ h => h) (Or.inl ⟨by kernel_rfl, ?hyg1⟩) hHeld ?restg1
    case hyg1 => intro w' hSw; (try dsimp only at hSw); go_simp; try with_reducible rfl
    simp only [Act.put]
    refine wpAnyH_take (i := 1) (v := ?vg2) rfl (by kernel_rfl) (by kernel_rfl) (by kernel_rfl) (fun _ _ _ h => h) (Or.inl ⟨by kernel_rfl, ?hyg2⟩) hHeld ?restg2
    case hyg2 => intro w' hSw; (try dsimp only at hSw); go_simp; try with_reducible rfl
    simp only [Act.put]
    refine wpAnyH_take (i := 2) (v := ?vg3) rfl (by kernel_rfl) (by kernel_rfl) (by kernel_rfl) (fun _ _ _ h => h) (Or.inl ⟨by kernel_rfl, ?hyg3⟩) hHeld ?restg3
    case hyg3 => intro w' hSw; (try dsimp only at hSw); go_simp; try with_reducible rfl
    simp only [Act.put]
    refine wpAnyH_ready (rs := [3]) (by kernel_rfl) (by simp) ?_
    refine AllReadyH.cons rfl (fun K hK => ?_) AllReadyH.nil
    go_simp
    refine (HIs.out _ ((Below.refl w8.heap.size w8).drew)).mono ?_
    rintro e wC0 ⟨rfl, hbC⟩
    dsimp only
    have HBC0 := hide_ (below_to ((Below.refl w8.heap.size w8).drew) hbC)
    clear hbC
    refine hK.out _ _ (HSS.out _ HBC0.out) (fun hHeld => ?_)
    clear hK K
    refine wpAnyH_take (i := 4) (v := ?vg4) rfl (by kernel_rfl) (by kernel_rfl) (by kernel_rfl) (fun _ _ _ h => h) (Or.inl ⟨by kernel_rfl, ?hyg4⟩) hHeld ?restg4
    case hyg4 => intro w' hSw; (try dsimp only at hSw); go_simp; try with_reducible rfl
    simp only [Act.put]
    refine wpAnyH_take (i := 5) (v := ?vg5) rfl (by kernel_rfl) (by kernel_rfl) (by kernel_rfl) (fun _ _ _ h => h) (Or.inl ⟨by kernel_rfl, ?hyg5⟩) hHeld ?restg5
    case hyg5 => intro w' hSw; (try dsimp only at hSw); go_simp; try with_reducible rfl
    simp only [Act.put]
    refine wpAnyH_take (i := 6) (v := ?vg6) rfl (by kernel_rfl) (by kernel_rfl) (by kernel_rfl) (fun _ _ _ h => h) (Or.inl ⟨by kernel_rfl, ?hyg6⟩) hHeld ?restg6
    case hyg6 => intro w' hSw; (try dsimp only at hSw); go_simp; try with_reducible rfl
    simp only [Act.put]
    refine wpAnyH_take (i := 7) (v := ?vg7) rfl (by kernel_rfl) (by kernel_rfl) (by kernel_rfl) (fun _ _ _ h => h) (Or.inl ⟨by kernel_rfl, ?hyg7⟩) hHeld ?restg7
    case hyg7 => intro w' hSw; (try dsimp only at hSw); go_simp; try with_reducible rfl
    simp only [Act.put]
    refine wpAnyH_ready (rs := [8]) (by kernel_rfl) (by simp) ?_
    refine AllReadyH.cons rfl (fun K hK => ?_) AllReadyH.nil
    go_simp
    refine (HEq.out _ (HBC0.out)).mono ?_
    rintro e wC1 ⟨rfl, hbC⟩
    dsimp only
    have HBC1 := hide_ (below_to (HBC0.out) hbC)
    clear hbC
    refine hK.out _ _ (HSS.out _ HBC1.out) (fun hHeld => ?_)
    clear hK K
    refine wpAnyH_take (i := 9) (v := ?vg8) rfl (by kernel_rfl) (by kernel_rfl) (by kernel_rfl) (fun _ _ _ h => h) (Or.inl ⟨by kernel_rfl, ?hyg8⟩) hHeld ?restg8
    case hyg8 => intro w' hSw; (try dsimp only at hSw); go_simp; try with_reducible rfl
    simp only [Act.put]
    refine wpAnyH_take (i := 10) (v := ?vg9) rfl (by kernel_rfl) (by kernel_rfl) (by kernel_rfl) (fun _ _ _ h => h) (Or.inl ⟨by kernel_rfl, ?hyg9⟩) hHeld ?restg9
    case hyg9 => intro w' hSw; (try dsimp only at hSw); go_simp; try with_reducible rfl
    simp only [Act.put]
    refine wpAnyH_take (i := 11) (v := ?vg10) rfl (by kernel_rfl) (by kernel_rfl) (by kernel_rfl) (fun _ _ _ h => h) (Or.inl ⟨by kernel_rfl, ?hyg10⟩) hHeld ?restg10
    case hyg10 => intro w' hSw; (try dsimp only at hSw); go_simp; try with_reducible rfl
    simp only [Act.put]
    refine wpAnyH_take (i := 12) (v := ?vg11) rfl (by kernel_rfl) (by kernel_rfl) (by kernel_rfl) (fun _ _ _ h => h) (Or.inl ⟨by kernel_rfl, ?hyg11⟩) hHeld ?restg11
    case hyg11 => intro w' hSw; (try dsimp only at hSw); go_simp; try with_reducible rfl
    simp only [Act.put]
    refine wpAnyH_take (i := 13) (v := ?vg12) rfl (by kernel_rfl) (by kernel_rfl) (by kernel_rfl) (fun _ _ _ h => h) (Or.inl ⟨by kernel_rfl, ?hyg12⟩) hHeld ?restg12
    case hyg12 => intro w' hSw; (try dsimp only at hSw); go_simp; try with_reducible rfl
    simp only [Act.put]
    refine wpAnyH_ready (rs := [14]) (by kernel_rfl) (by simp) ?_
    refine AllReadyH.cons rfl (fun K hK => ?_) AllReadyH.nil
    go_simp
    refine (HRp.out _ (HBC1.out)).mono ?_
    rintro e wC2 ⟨rfl, hbC⟩
    dsimp only
    have HBC2 := hide_ (below_to (HBC1.out) hbC)
    clear hbC
    refine hK.out _ _ (HSS.out _ HBC2.out) (fun hHeld => ?_)
    clear hK K
    refine wpAnyH_take (i := 15) (v := ?vg13) rfl (by kernel_rfl) (by kernel_rfl) (by kernel_rfl) (fun _ _ _ h => h) (Or.inl ⟨by kernel_rfl, ?hyg13⟩) hHeld ?restg13
    case hyg13 => intro w' hSw; (try dsimp only at hSw); go_simp; try with_reducible rfl
    simp only [Act.put]
    refine wpAnyH_take (i := 16) (v := ?vg14) rfl (by kernel_rfl) (by kernel_rfl) (by kernel_rfl) (fun _ _ _ h => h) (Or.inl ⟨by kernel_rfl, ?hyg14⟩) hHeld ?restg14
    case hyg14 => intro w' hSw; (try dsimp only at hSw); go_simp; try with_reducible rfl
    simp only [Act.put]
    refine wpAnyH_take (i := 17) (v := ?vg15) rfl (by kernel_rfl) (by kernel_rfl) (by kernel_rfl) (fun _ _ _ h => h) (Or.inl ⟨by kernel_rfl, ?hyg15⟩) hHeld ?restg15
    case hyg15 => intro w' hSw; (try dsimp only at hSw); go_simp; try with_reducible rfl
    simp only [Act.put]
    refine wpAnyH_take (i := 18) (v := ?vg16) rfl (by kernel_rfl) (by kernel_rfl) (by kernel_rfl) (fun _ _ _ h => h) (Or.inl ⟨by kernel_rfl, ?hyg16⟩) hHeld ?restg16
    case hyg16 => intro w' hSw; (try dsimp only at hSw); go_simp; try with_reducible rfl
    simp only [Act.put]
    refine wpAnyH_take (i := 19) (v := ?vg17) rfl (by kernel_rfl) (by kernel_rfl) (by kernel_rfl) (fun _ _ _ h => h) (Or.inl ⟨by kernel_rfl, ?hyg17⟩) hHeld ?restg17
    case hyg17 => intro w' hSw; (try dsimp only at hSw); go_simp; try with_reducible rfl
    simp only [Act.put]
    refine wpAnyH_take (i := 20) (v := ?vg18) rfl (by kernel_rfl) (by kernel_rfl) (by kernel_rfl) (fun _ _ _ h => h) (Or.inl ⟨by kernel_rfl, ?hyg18⟩) hHeld ?restg18
    case hyg18 => intro w' hSw; (try dsimp only at hSw); go_simp; try with_reducible rfl
    simp only [Act.put]
    refine wpAnyH_take (i := 21) (v := ?vg19) rfl (by kernel_rfl) (by kernel_rfl) (by kernel_rfl) (fun _ _ _ h => h) (Or.inl ⟨by kernel_rfl, ?hyg19⟩) hHeld ?restg19
    case hyg19 => intro w' hSw; (try dsimp only at hSw); go_simp; try with_reducible rfl
    simp only [Act.put]
    refine wpAnyH_take (i := 23) (v := ?vg20) rfl (by kernel_rfl) (by kernel_rfl) (by kernel_rfl) (fun _ _ _ h => h) (Or.inl ⟨by kernel_rfl, ?hyg20⟩) hHeld ?restg20
    case hyg20 => intro w' hSw; (try dsimp only at hSw); go_simp; try with_reducible rfl
    simp only [Act.put]
    refine wpAnyH_ready (rs := [22, 24]) (by kernel_rfl) (by simp) ?_
    refine AllReadyH.cons rfl (fun K hK => ?_) ?_
    · go_simp
      refine hK.out _ _ (hHeld) (fun hHeld => ?_)
      clear hK K
      refine wpAnyH_ready (rs := [24]) (by kernel_rfl) (by simp) ?_
      refine AllReadyH.cons rfl (fun K hK => ?_) AllReadyH.nil
      go_simp
      refine hK.out _ _ (hHeld) (fun hHeld => ?_)
      clear hK K
      refine wpAnyH_take (i := 25) (v := ?vg21) rfl (by kernel_rfl) (by kernel_rfl) (by kernel_rfl) (fun _ _ _ h => h) (Or.inl ⟨by kernel_rfl, ?hyg21⟩) hHeld ?restg21
      case hyg21 => intro w' hSw; (try dsimp only at hSw); go_simp; try with_reducible rfl
      simp only [Act.put]
      refine wpAnyH_take (i := 26) (v := ?vg22) rfl (by kernel_rfl) (by kernel_rfl) (by kernel_rfl) (fun _ _ _ h => h) (Or.inl ⟨by kernel_rfl, ?hyg22⟩) hHeld ?restg22
      case hyg22 => intro w' hSw; (try dsimp only at hSw); go_simp; try with_reducible rfl
      simp only [Act.put]
      refine wpAnyH_take (i := 27) (v := ?vg23) rfl (by kernel_rfl) (by kernel_rfl) (by kernel_rfl) (fun _ _ _ h => h) (Or.inl ⟨by kernel_rfl, ?hyg23⟩) hHeld ?restg23
      case hyg23 => intro w' hSw; (try dsimp only at hSw); go_simp; try with_reducible rfl
      simp only [Act.put]
      refine wpAnyH_take (i := 28) (v := ?vg24) rfl (by kernel_rfl) (by kernel_rfl) (by kernel_rfl) (fun _ _ _ h => h) (Or.inl ⟨by kernel_rfl, ?hyg24⟩) hHeld ?restg24
      case hyg24 => intro w' hSw; (try dsimp only at hSw); go_simp; try with_reducible rfl
      simp only [Act.put]
      refine wpAnyH_take (i := 29) (v := ?vg25) rfl (by kernel_rfl) (by kernel_rfl) (by kernel_rfl) (fun _ _ _ h => h) (Or.inl ⟨by kernel_rfl, ?hyg25⟩) hHeld ?restg25
      case hyg25 => intro w' hSw; (try dsimp only at hSw); go_simp; try with_reducible rfl
      simp only [Act.put]
      refine wpAnyH_take (i := 30) (v := ?vg26) rfl (by kernel_rfl) (by kernel_rfl) (by kernel_rfl) (fun _ _ _ h => h) (Or.inl ⟨by kernel_rfl, ?hyg26⟩) hHeld ?restg26
      case hyg26 => intro w' hSw; (try dsimp only at hSw); go_simp; try with_reducible rfl
      simp only [Act.put]
      refine wpAnyH_take (i := 31) (v := ?vg27) rfl (by kernel_rfl) (by kernel_rfl) (by kernel_rfl) (fun _ _ _ h => h) (Or.inl ⟨by kernel_rfl, ?hyg27⟩) hHeld ?restg27
      case hyg27 => intro w' hSw; (try dsimp only at hSw); go_simp; try with_reducible rfl
      simp only [Act.put]
      refine wpAnyH_take (i := 32) (v := ?vg28) rfl (by kernel_rfl) (by kernel_rfl) (by kernel_rfl) (fun _ _ _ h => h) (Or.inl ⟨by kernel_rfl, ?hyg28⟩) hHeld ?restg28
      case hyg28 => intro w' hSw; (try dsimp only at hSw); go_simp; try with_reducible rfl
      simp only [Act.put]
      refine wpAnyH_take (i := 33) (v := ?vg29) rfl (by kernel_rfl) (by kernel_rfl) (by kernel_rfl) (fun _ _ _ h => h) (Or.inl ⟨by kernel_rfl, ?hyg29⟩) hHeld ?restg29
      case hyg29 => intro w' hSw; (try dsimp only at hSw); go_simp; try with_reducible rfl
      simp only [Act.put]
      refine wpAnyH_take (i := 34) (v := ?vg30) rfl (by kernel_rfl) (by kernel_rfl) (by kernel_rfl) (fun _ _ _ h => h) (Or.inl ⟨by kernel_rfl, ?hyg30⟩) hHeld ?restg30
      case hyg30 => intro w' hSw; (try dsimp only at hSw); go_simp; try with_reducible rfl
      simp only [Act.put]
      refine wpAnyH_ready (rs := [35]) (by kernel_rfl) (by simp) ?_
      refine AllReadyH.cons rfl (fun K hK => ?_) AllReadyH.nil
      go_simp
      refine hK.out _ _ (hHeld) (fun hHeld => ?_)
      clear hK K
      refine wpAnyH_take (i := 36) (v := ?vg31) rfl (by kernel_rfl) (by kernel_rfl) (by kernel_rfl) (fun _ _ _ h => h) (Or.inl ⟨by kernel_rfl, ?hyg31⟩) hHeld ?restg31
      case hyg31 => intro w' hSw; (try dsimp only at hSw); go_simp; try with_reducible rfl
      simp only [Act.put]
      refine wpAnyH_take (i := 37) (v := ?vg32) rfl (by kernel_rfl) (by kernel_rfl) (by kernel_rfl) (fun _ _ _ h => h) (Or.inl ⟨by kernel_rfl, ?hyg32⟩) hHeld ?restg32
      case hyg32 => intro w' hSw; (try dsimp only at hSw); go_simp; try with_reducible rfl
      simp only [Act.put]
      refine wpAnyH_take (i := 38) (v := ?vg33) rfl (by kernel_rfl) (by kernel_rfl) (by kernel_rfl) (fun _ _ _ h => h) (Or.inl ⟨by kernel_rfl, ?hyg33⟩) hHeld ?restg33
      case hyg33 => intro w' hSw; (try dsimp only at hSw); go_simp; try with_reducible rfl
      simp only [Act.put]
      refine wpAnyH_take (i := 39) (v := ?vg34) rfl (by kernel_rfl) (by kernel_rfl) (by kernel_rfl) (fun _ _ _ h => h) (Or.inl ⟨by kernel_rfl, ?hyg34⟩) hHeld ?restg34
      case hyg34 => intro w' hSw; (try dsimp only at hSw); go_simp; try with_reducible rfl
      simp only [Act.put]
      refine wpAnyH_take (i := 40) (v := ?vg35) rfl (by kernel_rfl) (by kernel_rfl) (by kernel_rfl) (fun _ _ _ h => h) (Or.inl ⟨by kernel_rfl, ?hyg35⟩) hHeld ?restg35
      case hyg35 => intro w' hSw; (try dsimp only at hSw); go_simp; try with_reducible rfl
      simp only [Act.put]
      refine wpAnyH_take (i := 41) (v := ?vg36) rfl (by kernel_rfl) (by kernel_rfl) (by kernel_rfl) (fun _ _ _ h => h) (Or.inl ⟨by kernel_rfl, ?hyg36⟩) hHeld ?restg36
      case hyg36 => intro w' hSw; (try dsimp only at hSw); go_simp; try with_reducible rfl
      simp only [Act.put]
      refine wpAnyH_take (i := 42) (v := ?vg37) rfl (by kernel_rfl) (by kernel_rfl) (by kernel_rfl) (fun _ _ _ h => h) (Or.inl ⟨by kernel_rfl, ?hyg37⟩) hHeld ?restg37
      case hyg37 => intro w' hSw; (try dsimp only at hSw); go_simp; try with_reducible rfl
      simp only [Act.put]
      refine wpAnyH_ready (rs := [43]) (by kernel_rfl) (by simp) ?_
      refine AllReadyH.cons rfl (fun K hK => ?_) AllReadyH.nil
      go_simp
      refine hK.out _ _ (hHeld) (fun hHeld => ?_)
      clear hK K
      refine wpAnyH_done (by kernel_rfl) ?_ _
      go_wp2_with fail
      go_meet
      case rel => exact ⟨_, rfl, rfl, HBC2⟩
    refine AllReadyH.cons rfl (fun K hK => ?_) AllReadyH.nil
    go_simp
    refine hK.out _ _ (hHeld) (fun hHeld => ?_)
    clear hK K
    refine wpAnyH_ready (rs := [22]) (by kernel_rfl) (by simp) ?_
    refine AllReadyH.cons rfl (fun K hK => ?_) AllReadyH.nil
    go_simp
    refine hK.out _ _ (hHeld) (fun hHeld => ?_)
    clear hK K
    refine wpAnyH_take (i := 25) (v := ?vg38) rfl (by kernel_rfl) (by kernel_rfl) (by kernel_rfl) (fun _ _ _ h => h) (Or.inl ⟨by kernel_rfl, ?hyg38⟩) hHeld ?restg38
    case hyg38 => intro w' hSw; (try dsimp only at hSw); go_simp; try with_reducible rfl
    simp only [Act.put]
    refine wpAnyH_take (i := 26) (v := ?vg39) rfl (by kernel_rfl) (by kernel_rfl) (by kernel_rfl) (fun _ _ _ h => h) (Or.inl ⟨by kernel_rfl, ?hyg39⟩) hHeld ?restg39
    case hyg39 => intro w' hSw; (try dsimp only at hSw); go_simp; try with_reducible rfl
    simp only [Act.put]
    refine wpAnyH_take (i := 27) (v := ?vg40) rfl (by kernel_rfl) (by kernel_rfl) (by kernel_rfl) (fun _ _ _ h => h) (Or.inl ⟨by kernel_rfl, ?hyg40⟩) hHeld ?restg40
    case hyg40 => intro w' hSw; (try dsimp only at hSw); go_simp; try with_reducible rfl
    simp only [Act.put]
    refine wpAnyH_take (i := 28) (v := ?vg41) rfl (by kernel_rfl) (by kernel_rfl) (by kernel_rfl) (fun _ _ _ h => h) (Or.inl ⟨by kernel_rfl, ?hyg41⟩) hHeld ?restg41
    case hyg41 => intro w' hSw; (try dsimp only at hSw); go_simp; try with_reducible rfl
    simp only [Act.put]
    refine wpAnyH_take (i := 29) (v := ?vg42) rfl (by kernel_rfl) (by kernel_rfl) (by kernel_rfl) (fun _ _ _ h => h) (Or.inl ⟨by kernel_rfl, ?hyg42⟩) hHeld ?restg42
    case hyg42 => intro w' hSw; (try dsimp only at hSw); go_simp; try with_reducible rfl
    simp only [Act.put]
    refine wpAnyH_take (i := 30) (v := ?vg43) rfl (by kernel_rfl) (by kernel_rfl) (by kernel_rfl) (fun _ _ _ h => h) (Or.inl ⟨by kernel_rfl, ?hyg43⟩) hHeld ?restg43
    case hyg43 => intro w' hSw; (try dsimp only at hSw); go_simp; try with_reducible rfl
    simp only [Act.put]
    refine wpAnyH_take (i := 31) (v := ?vg44) rfl (by kernel_rfl) (by kernel_rfl) (by kernel_rfl) (fun _ _ _ h => h) (Or.inl ⟨by kernel_rfl, ?hyg44⟩) hHeld ?restg44
    case hyg44 => intro w' hSw; (try dsimp only at hSw); go_simp; try with_reducible rfl
    simp only [Act.put]
    refine wpAnyH_take (i := 32) (v := ?vg45) rfl (by kernel_rfl) (by kernel_rfl) (by kernel_rfl) (fun _ _ _ h => h) (Or.inl ⟨by kernel_rfl, ?hyg45⟩) hHeld ?restg45
    case hyg45 => intro w' hSw; (try dsimp only at hSw); go_simp; try with_reducible rfl
    simp only [Act.put]
    refine wpAnyH_take (i := 33) (v := ?vg46) rfl (by kernel_rfl) (by kernel_rfl) (by kernel_rfl) (fun _ _ _ h => h) (Or.inl ⟨by kernel_rfl, ?hyg46⟩) hHeld ?restg46
    case hyg46 => intro w' hSw; (try dsimp only at hSw); go_simp; try with_reducible rfl
    simp only [Act.put]
    refine wpAnyH_take (i := 34) (v := ?vg47) rfl (by kernel_rfl) (by kernel_rfl) (by kernel_rfl) (fun _ _ _ h => h) (Or.inl ⟨by kernel_rfl, ?hyg47⟩) hHeld ?restg47
    case hyg47 => intro w' hSw; (try dsimp only at hSw); go_simp; try with_reducible rfl
    simp only [Act.put]
    refine wpAnyH_ready (rs := [35]) (by kernel_rfl) (by simp) ?_
    refine AllReadyH.cons rfl (fun K hK => ?_) AllReadyH.nil
    go_simp
    refine hK.out _ _ (hHeld) (fun hHeld => ?_)
    clear hK K
    refine wpAnyH_take (i := 36) (v := ?vg48) rfl (by kernel_rfl) (by kernel_rfl) (by kernel_rfl) (fun _ _ _ h => h) (Or.inl ⟨by kernel_rfl, ?hyg48⟩) hHeld ?restg48
    case hyg48 => intro w' hSw; (try dsimp only at hSw); go_simp; try with_reducible rfl
    simp only [Act.put]
    refine wpAnyH_take (i := 37) (v := ?vg49) rfl (by kernel_rfl) (by kernel_rfl) (by kernel_rfl) (fun _ _ _ h => h) (Or.inl ⟨by kernel_rfl, ?hyg49⟩) hHeld ?restg49
    case hyg49 => intro w' hSw; (try dsimp only at hSw); go_simp; try with_reducible rfl
    simp only [Act.put]
    refine wpAnyH_take (i := 38) (v := ?vg50) rfl (by kernel_rfl) (by kernel_rfl) (by kernel_rfl) (fun _ _ _ h => h) (Or.inl ⟨by kernel_rfl, ?hyg50⟩) hHeld ?restg50
    case hyg50 => intro w' hSw; (try dsimp only at hSw); go_simp; try with_reducible rfl
    simp only [Act.put]
    refine wpAnyH_take (i := 39) (v := ?vg51) rfl (by kernel_rfl) (by kernel_rfl) (by kernel_rfl) (fun _ _ _ h => h) (Or.inl ⟨by kernel_rfl, ?hyg51⟩) hHeld ?restg51
    case hyg51 => intro w' hSw; (try dsimp only at hSw); go_simp; try with_reducible rfl
    simp only [Act.put]
    refine wpAnyH_take (i := 40) (v := ?vg52) rfl (by kernel_rfl) (by kernel_rfl) (by kernel_rfl) (fun _ _ _ h => h) (Or.inl ⟨by kernel_rfl, ?hyg52⟩) hHeld ?restg52
    case hyg52 => intro w' hSw; (try dsimp only at hSw); go_simp; try with_reducible rfl
    simp only [Act.put]
    refine wpAnyH_take (i := 41) (v := ?vg53) rfl (by kernel_rfl) (by kernel_rfl) (by kernel_rfl) (fun _ _ _ h => h) (Or.inl ⟨by kernel_rfl, ?hyg53⟩) hHeld ?restg53
    case hyg53 => intro w' hSw; (try dsimp only at hSw); go_simp; try with_reducible rfl
    simp only [Act.put]
    refine wpAnyH_take (i := 42) (v := ?vg54) rfl (by kernel_rfl) (by kernel_rfl) (by kernel_rfl) (fun _ _ _ h => h) (Or.inl ⟨by kernel_rfl, ?hyg54⟩) hHeld ?restg54
    case hyg54 => intro w' hSw; (try dsimp only at hSw); go_simp; try with_reducible rfl
    simp only [Act.put]
    refine wpAnyH_ready (rs := [43]) (by kernel_rfl) (by simp) ?_
    refine AllReadyH.cons rfl (fun K hK => ?_) AllReadyH.nil
    go_simp
    refine hK.out _ _ (hHeld) (fun hHeld => ?_)
    clear hK K
    refine wpAnyH_done (by kernel_rfl) ?_ _
    go_wp2_with fail
    go_meet
    case rel => exact ⟨_, rfl, rfl, HBC2⟩
  case rest =>
  obtain ⟨w9, rfl, rfl, HB9⟩ := hcut
  have HUq := hide_ (Upd.of_below (S := fun k => k = gB) HB9.out)
  have HO9 : Hid (w9.ownsRow w2.heap.size 5 1 (.slice (some ⟨gB, 0, none⟩) (n + 2) cB) (n + 2) (cellsL .u8 (lt ++ [90, 91]))) := hide_ (owns_upd HOw.out (Upd.of_below (S := fun _ => False) HB9.out) (fun _ _ h => h))
  clear hx1 hx2 hx3 hx4 HSS HEq HRp HIs
  go_wp2_with fail
  go_loopw [9] (fun x9 wr => ∃ (i : Nat) (l : List Int), i ≤ n + 2 ∧ x9 = .int .i64 (i : Int) ∧ Hid (l.length = n + 2) ∧ Hid (wr.ownsRow w2.heap.size 5 1 (.slice (some ⟨gB, 0, none⟩) (n + 2) cB) (n + 2) (cellsL .u8 l)) ∧ Hid (Upd (fun k => k = gB) w8 wr)) (fun x9 _ => n + 2 - (intOf x9).toNat)
  case atStart => exact ⟨0, _, Nat.zero_le _, rfl, HlB, HO9, HUq⟩
  case round =>
    obtain ⟨i, l, hi, rfl, HL, HO, HU⟩ := hrel
    generalize wr = wq at *
    clear HUq HO9
    by_cases hlt2 : i < n + 2
    · have hlt3 : (i : Int) < (n : Int) + 2 := by omega
      obtain ⟨c0, cz⟩ : wq.cell? ⟨gB, i, none⟩ = some (.int .u8 (l.getD i 0)) ∧ ∀ o, wq.frozen? ⟨gB, o, none⟩ = false := by
        obtain ⟨aa, ca, ea, -, -, -, -, hgo⟩ := own_open HO.out HL.out
        obtain ⟨ga, ha1, -, -, hcl, hfz⟩ := hgo (by omega)
        injection ea with ea1 _ _
        rw [ha1] at ea1
        injection ea1 with ea1
        injection ea1 with ea1 _ _
        subst ea1
        exact ⟨hcl i hlt2, hfz⟩
      go_wp2_with fail
      go_roundw
      case rel => exact ⟨i + 1, _, by omega, by go_num, hide_ (by rw [List.length_set]; exact HL.out), hide_ (own_set1 HO.out hlt2 _), hide_ (HU.out.set _ _ (.inl rfl))⟩
      case measure => simp [intOf]; omega
    · obtain rfl : i = n + 2 := by omega
      have hgb := HgB.out.2
      have hns : ∀ k, wB.heap.size ≤ k → ¬ k = gB := fun k hk => by omega
      have hz6 := HB66.out.size
      have p0 := (KP8.out.upd HU.out (hns _ Hgp.out)).cell 0; have p1 := (KP8.out.upd HU.out (hns _ Hgp.out)).cell 1; have p2 := (KP8.out.upd HU.out (hns _ Hgp.out)).cell 2
      have q0 := (KQ8.out.upd HU.out (hns _ Hgq.out)).cell 0; have q1 := (KQ8.out.upd HU.out (hns _ Hgq.out)).cell 1; have q2 := (KQ8.out.upd HU.out (hns _ Hgq.out)).cell 2
      simp at p0 p1 p2 q0 q1 q2
      have HC := hide_ (HRq.out wq (ownS_upd HoX8.out HU.out (fun k e => hns k (World.ownsRow.lt HoX8.out k e).1)) (ownS_upd HoY8.out HU.out (fun k e => hns k (Nat.le_trans hz6 (World.ownsRow.lt HoY8.out k e).1))) (HoN8.out.upd HU.out (fun k e => hns k (HoN8.out.lies e).1)) (HoM8.out.upd HU.out (fun k e => hns k (Nat.le_trans hz6 (HoM8.out.lies e).1))))
      have HBf := hide_ (HB8.out.trans (HU.out.below _ HB8.out.size (fun k hk => by have := HgW.out; omega)))
      clear hns hgb hz6
      go_wp2_with (go_at_call 17; refine HC.out.mono ?_; rintro e wz ⟨rfl, hBz⟩)
      go_ret
      exact ⟨rfl, below_to HBf.out hBz⟩
end Go.Proofs.YtjojbfendkodgaaDoor
/- What the reading of a program says of memory. -/
namespace Go.Proofs.YtjojbfendkodgaaDoor
open Go.ChangeShapes Go.WideShapes Go.ChangeAt Go.RowKit
set_option linter.unusedVariables false

variable {H : Type} {enc : TypeId × Value → H} {w : World} {base : Nat} {held : Bool}
theorem len3P {cs : List Value} (h : cs.length = 3) : ∃ c0 c1 c2, cs = [c0, c1, c2] := by
  match cs, h with
  | [c0, c1, c2], _ => exact ⟨c0, c1, c2, rfl⟩
theorem len4P {cs : List Value} (h : cs.length = 4) : ∃ c0 c1 c2 c3, cs = [c0, c1, c2, c3] := by
  match cs, h with
  | [c0, c1, c2, c3], _ => exact ⟨c0, c1, c2, c3, rfl⟩
theorem cellsIn : Tryd.prog.cellsOf 28 = 4 := by kernel_rfl
theorem cellsPg : Tryd.prog.cellsOf 26 = 3 := by kernel_rfl
theorem cellsIt : Tryd.prog.cellsOf 3 = 1 := by kernel_rfl
theorem bytesIn : Tryd.prog.bytesOf 28 = 32 := by kernel_rfl
theorem bytesIt : Tryd.prog.bytesOf 3 = 8 := by kernel_rfl
theorem slice_weightP {P : Program} {t e : TypeId} (ht : P.underlying t = some (.slice e)) {fuel : Nat} {a0 : Option Addr} {len cap : Nat} {y : DataW H × List MemPlace} (h : DataW.trod enc P w base (fun _ => true) held fuel t [.slice a0 len cap] = some y) : len = 0 ∨ ∃ k, len ≤ k ∧ k * P.bytesOf e ∈ y.1.weights P t := by
  rcases Go.Deep.open_slice ht h with ⟨hcs, _⟩ | ⟨x, l, c, m, n, D, Pl, hcs, _, hl, hm, hmm, hy, hel⟩
  · left
    simp at hcs
    exact hcs.2.1
  · simp at hcs
    obtain ⟨rfl, rfl, rfl⟩ := hcs
    right
    subst hy
    simp only [DataW.weights, ht]
    refine ⟨_, ?_, List.mem_cons_self⟩
    simp
theorem slice_formP {P : Program} {t e : TypeId} (ht : P.underlying t = some (.slice e)) {fuel : Nat} {c : Value} {y : DataW H × List MemPlace} (h : DataW.trod enc P w base (fun _ => true) held fuel t [c] = some y) : ∃ a n cap, c = .slice a n cap ∧ n ≤ cap ∧ (a = none → cap = 0) ∧ n ≤ maxLen ∧ cap ≤ maxLen := by
  rcases Go.Deep.open_slice ht h with ⟨hcs, _⟩ | ⟨x, l, c', m, n, D, Pl, hcs, _, hl, hm, _⟩
  · simp at hcs
    exact ⟨none, 0, 0, hcs, Nat.le_refl _, fun _ => rfl, Nat.zero_le _, Nat.zero_le _⟩
  · simp at hcs
    exact ⟨some x, l, c', hcs, hl, (fun h => by cases h), Nat.le_trans hl hm, hm⟩
theorem list_ofP {α : Type} (n : Nat) (Q : Nat → α → Prop) (h : ∀ i, i < n → ∃ x, Q i x) : ∃ l : List α, l.length = n ∧ ∀ i x, l[i]? = some x → Q i x := by
  induction n with
  | zero => exact ⟨[], rfl, fun i x h => by simp at h⟩
  | succ n ih =>
    obtain ⟨l, h1, h2⟩ := ih (fun i hi => h i (by omega))
    obtain ⟨x, hx⟩ := h n (by omega)
    refine ⟨l ++ [x], by simp [h1], fun i y hy => ?_⟩
    rcases Nat.lt_or_ge i l.length with hi | hi
    · rw [List.getElem?_append_left hi] at hy; exact h2 i y hy
    · rw [List.getElem?_append_right hi] at hy
      have h0 : i - l.length = 0 := by have := (List.getElem?_eq_some_iff.1 hy).1; simpa using this
      rw [h0] at hy
      simp at hy
      subst hy
      obtain rfl : i = n := by omega
      exact hx
theorem instr_open {fuel : Nat} {cs : List Value} {y : DataW H × List MemPlace} (h : DataW.trod enc Tryd.prog w base (fun _ => true) held fuel 28 cs = some y) : ∃ x : In, cs = inc x := by
  obtain ⟨hl, m, hf⟩ := field_read Tryd.underlying28 h
  rw [cellsIn] at hl
  obtain ⟨c0, c1, c2, c3, rfl⟩ := len4P hl
  obtain ⟨y0, t0⟩ := hf 0 _ c0 rfl (by kernel_rfl) rfl
  obtain ⟨y1, t1⟩ := hf 1 _ c1 rfl (by kernel_rfl) rfl
  obtain ⟨y2, t2⟩ := hf 2 _ c2 rfl (by kernel_rfl) rfl
  obtain ⟨y3, t3⟩ := hf 3 _ c3 rfl (by kernel_rfl) rfl
  obtain ⟨a0, k0, _, _⟩ := DataW.trod_int Tryd.underlying3 t0
  obtain ⟨a1, k1, _, _⟩ := DataW.trod_int Tryd.underlying3 t1
  obtain ⟨a2, k2, _, _⟩ := DataW.trod_int Tryd.underlying3 t2
  obtain ⟨a3, k3, _, _⟩ := DataW.trod_int Tryd.underlying3 t3
  simp at k0 k1 k2 k3
  subst k0 k1 k2 k3
  exact ⟨⟨a0, a1, a2, a3⟩, rfl⟩
theorem instrs_open {fuel : Nat} {c : Value} {y : DataW H × List MemPlace} (h : DataW.trod enc Tryd.prog w base (fun _ => true) held fuel 23 [c] = some y) (hw : ∀ k ∈ y.1.weights Tryd.prog 23, k ≤ 140737488351232) :
    ∃ a cap l, c = .slice a l.length cap ∧ l.length ≤ cap ∧ (a = none → cap = 0) ∧ IRow w a l ∧ l.length ≤ 4398046510976 ∧ cap ≤ 9223372036854775807 := by
  obtain ⟨a, n, cap, rfl, hc, hz, _, hmx⟩ := slice_formP Tryd.underlying23 h
  unfold maxLen at hmx
  have hb : n ≤ 4398046510976 := by
    rcases slice_weightP Tryd.underlying23 h with h0 | ⟨k, h1, h2⟩
    · omega
    · have := hw _ h2
      rw [bytesIn] at this
      omega
  rcases structs_read Tryd.underlying23 (by rw [cellsIn]; omega) h with h0 | ⟨b, off, m, rfl, hbl, hlc, hcm, hel⟩
  · subst h0
    exact ⟨a, cap, [], rfl, hc, hz, .inl rfl, by simp, by omega⟩
  · rw [cellsIn] at hel
    obtain ⟨N, hN, hQ⟩ := list_ofP n (fun i (x : In) => ∀ j, j < 4 → w.cell? ⟨b, off + i * 4 + j, none⟩ = (inc x)[j]?) (fun i hi => by
      obtain ⟨cs, z, _, hcell, ht⟩ := hel i hi
      obtain ⟨x, rfl⟩ := instr_open ht
      exact ⟨x, hcell⟩)
    subst hN
    exact ⟨some ⟨b, off, none⟩, cap, N, rfl, hc, hz, .inr ⟨b, off, rfl, hbl, fun i x hx => hQ i x hx⟩, hb, by omega⟩
theorem prog_open {fuel : Nat} {cs : List Value} {y : DataW H × List MemPlace} (h : DataW.trod enc Tryd.prog w base (fun _ => true) held fuel 26 cs = some y) (hw : ∀ k ∈ y.1.weights Tryd.prog 26, k ≤ 140737488351232) :
    ∃ en ac cc C ae ce E, cs = [.bool en, .slice ac C.length cc, .slice ae E.length ce] ∧ C.length ≤ cc ∧ (ac = none → cc = 0) ∧ IRow w ac C ∧ C.length ≤ 4398046510976 ∧ cc ≤ 9223372036854775807 ∧ E.length ≤ ce ∧ (ae = none → ce = 0) ∧ Row .i64 w ae E ∧ E.length ≤ 17592186043904 := by
  obtain ⟨hl, m, hf⟩ := field_weigh Tryd.underlying26 h
  rw [cellsPg] at hl
  obtain ⟨c0, c1, c2, rfl⟩ := len3P hl
  obtain ⟨y0, t0, u0⟩ := hf 0 _ c0 rfl (by kernel_rfl) rfl
  obtain ⟨y1, t1, u1⟩ := hf 1 _ c1 rfl (by kernel_rfl) rfl
  obtain ⟨y2, t2, u2⟩ := hf 2 _ c2 rfl (by kernel_rfl) rfl
  obtain ⟨en, k0, _⟩ := DataW.trod_bool Tryd.underlying4 t0
  obtain ⟨ac, cc, C, rfl, e1, e2, e3, e4, e5⟩ := instrs_open t1 (fun k hk => hw k (u1 k hk))
  obtain ⟨ae, n, ce, E, rfl, f1, f2, f3, f4, f5, -, f6⟩ := row_weigh Tryd.underlying24 Tryd.underlying3 cellsIt t2
  simp at k0
  subst k0 f3
  refine ⟨en, ac, cc, C, ae, ce, E, rfl, e1, e2, e3, e4, e5, f1, f5, f4, ?_⟩
  rcases f6 with h | h
  · omega
  · have := hw _ (u2 _ h)
    rw [bytesIt] at this
    omega
end Go.Proofs.YtjojbfendkodgaaDoor
/- What the rows' lists of laid variables give, and a world in which they hold. -/
namespace Go.Proofs.YtjojbfendkodgaaDoor
open Go.RowKit
set_option linter.unusedVariables false

theorem own : ownKnob Tryd.prog.godebug = none := by kernel_rfl
theorem laidOut : laidOutB Tryd.prog = true := by kernel_rfl
theorem gPow : Tryd.prog.globalNamed "internal/strconv.uint64pow10" = some 0 := by kernel_rfl
theorem gPowT : (Tryd.prog.globals[0]?).map (·.type) = some 123 := by kernel_rfl
theorem cellsPow : Tryd.prog.cellsOf 123 = 20 := by kernel_rfl
theorem laid_pow : (Rows.laid_internal_strconv_uint64pow10 : DataW Unit) = Lib.tabData .u64 Lib.pow10Tab := by kernel_rfl
theorem tab_of {W : World} (h : laidMetH Tryd.prog Rows.codeLimitsRow.laid W) : TabB W.heap.size W := by
  have h1 : laidMet Tryd.prog Rows.codeLimitsRow.laid W := h
  have h2 : laidMet Tryd.prog [("internal/strconv.uint64pow10", Rows.laid_internal_strconv_uint64pow10)] W := laidMet.tail (laidMet.tail h1)
  rw [laid_pow] at h2
  have h3 := Lib.tabIs_of_head (e := 59) gPow gPowT (by kernel_rfl) (by kernel_rfl) (by kernel_rfl) cellsPow h2
  have h4 := World.block_lt_of_cell? W _ (h3.cell gPow 0 (by decide))
  intro w' hB
  unfold Lib.TabIs World.var? at *
  rw [gPow] at h3 ⊢
  simp only [Option.bind_some] at h3 ⊢
  rw [hB.block 0 h4]
  exact h3
/-- The settled world w, the tables (blocks 0, 1, 2) holding what their initialisers lay. -/
def laidIn (w : World) : World :=
  { w with heap := ((w.heap.modify 0 fun
      | .cells _ t frozen => .cells (Lib.pow10Tab.map fun z => Value.int .u64 z).toArray t frozen
      | o => o).modify 1 fun
      | .cells _ t frozen => .cells #[.int .u8 0, .int .u8 1, .int .u8 28, .int .u8 2, .int .u8 29, .int .u8 14, .int .u8 24, .int .u8 3, .int .u8 30, .int .u8 22, .int .u8 20, .int .u8 15, .int .u8 25, .int .u8 17, .int .u8 4, .int .u8 8, .int .u8 31, .int .u8 27, .int .u8 13, .int .u8 23, .int .u8 21, .int .u8 19, .int .u8 16, .int .u8 7, .int .u8 26, .int .u8 12, .int .u8 18, .int .u8 6, .int .u8 11, .int .u8 5, .int .u8 10, .int .u8 9] t frozen
      | o => o).modify 2 fun
      | .cells _ t frozen => .cells #[.int .u8 0, .int .u8 1, .int .u8 56, .int .u8 2, .int .u8 57, .int .u8 49, .int .u8 28, .int .u8 3, .int .u8 61, .int .u8 58, .int .u8 42, .int .u8 50, .int .u8 38, .int .u8 29, .int .u8 17, .int .u8 4, .int .u8 62, .int .u8 47, .int .u8 59, .int .u8 36, .int .u8 45, .int .u8 43, .int .u8 51, .int .u8 22, .int .u8 53, .int .u8 39, .int .u8 33, .int .u8 30, .int .u8 24, .int .u8 18, .int .u8 12, .int .u8 5, .int .u8 63, .int .u8 55, .int .u8 48, .int .u8 27, .int .u8 60, .int .u8 41, .int .u8 37, .int .u8 16, .int .u8 46, .int .u8 35, .int .u8 44, .int .u8 21, .int .u8 52, .int .u8 32, .int .u8 23, .int .u8 11, .int .u8 54, .int .u8 26, .int .u8 40, .int .u8 15, .int .u8 34, .int .u8 20, .int .u8 31, .int .u8 10, .int .u8 25, .int .u8 14, .int .u8 19, .int .u8 9, .int .u8 13, .int .u8 8, .int .u8 7, .int .u8 6] t frozen
      | o => o }
end Go.Proofs.YtjojbfendkodgaaDoor
/- CodeReads, out of its walk. The frame round the walk is that of the tool proof-skeleton. -/
namespace Go.Proofs.YtjojbfendkodgaaDoor.codeReads
open Go.ChangeMaps Go.ChangeShapes Go.WideShapes Go.ChangeAt Go.RowKit
set_option linter.unusedVariables false

theorem tab_here {W : World} (h : laidMetH Tryd.prog Rows.codeReadsRow.laid W) : TabB W.heap.size W := tab_of h
set_option maxRecDepth 100000 in
theorem contract (H : Type) (enc : TypeId × Value → H) (W : World) (base : Nat) (args : Array Value) (ds gs : List (DataW H)) (before : List MemPlace)
    (hval : ∀ (j : Nat) t v, Tryd.f8.params[j]? = some t → args[j]? = some v → Value.okWide Tryd.prog W .any base t v)
    (hW : DataW.Whole enc Tryd.prog Tryd.f8.params.toList Rows.codeReadsSpec.vars false W args.toList ds gs before) (hsz0 : (DataW.weightsEach Tryd.prog (Tryd.f8.params.toList ++ Rows.codeReadsSpec.plain.varTypes Tryd.prog) (ds ++ gs)).all (· ≤ reachBytes) = true) (hL : laidMetH Tryd.prog Rows.codeReadsRow.laid W) :
    Calls Tryd.prog 8 args W fun e W' => ∃ v, e = .returned v ∧ Rows.codeReadsSpec.post enc Tryd.prog Tryd.f8 false true false false W args v W' := by
  have hsz := hsz0
  have hW' := hW
  obtain ⟨p, q, hA0, hV, rfl, hfz, hnd⟩ := hW
  have hA : DataW.TrodAll enc Tryd.prog W 0 (fun _ => true) true Tryd.f8.params.toList args.toList ds p := hA0
  rw [Tryd.params8] at hA hval hsz
  obtain ⟨v0, vs0, d0, ds0, p0, q0, hargs, rfl, rfl, h0, r0⟩ := trodAll_cons hA
  obtain ⟨rfl, rfl, rfl⟩ := trodAll_nil r0
  obtain rfl : args = #[v0] := by cases args; simp_all
  obtain ⟨rfl, rfl⟩ := trodVars_none hV
  obtain ⟨a0, len0, cap0, rfl⟩ := okWide_slice Tryd.underlying34 (hval 0 34 v0 rfl rfl)
  have k0 := h0
  have lt0 : ∀ x ∈ p0, x.block < W.heap.size := by obtain ⟨m, hm⟩ := k0; exact DataW.trod_lt m _ _ _ hm
  have walk : Calls Tryd.prog 8 #[.slice a0 len0 cap0] W fun e w' => e = .returned (.bool true) ∧ Below W.heap.size W w' := by
    have reach : ∀ (n : Nat), decide (n ≤ reachBytes) = true → n ≤ 140737488351232 := fun n hm => by
      have hm2 : n ≤ reachBytes := of_decide_eq_true hm
      rw [show reachBytes = 140737488351232 from rfl] at hm2
      exact hm2
    obtain ⟨fuel0, hf0⟩ := h0
    have hwt0 : ∀ n ∈ d0.weights Tryd.prog 34, n ≤ 140737488351232 := (fun n hn => reach n (List.all_eq_true.1 hsz _ (DataW.weights_mem_each (j := 0) rfl rfl _ hn)))
    obtain ⟨b0, m0, c0, l0, e0, hnc0, hcm0, hl0, hrow0, hnil0, hwf0, hw0⟩ := row_weigh Tryd.underlying34 Tryd.underlying5 (by kernel_rfl) hf0
    injection e0 with e01 e02 e03
    subst e01 e02 e03
    have hbd0 : cap0 ≤ 140737488351232 := by
      rcases hw0 with h | h
      · omega
      · have := hwt0 _ h
        rw [show Tryd.prog.bytesOf 5 = 1 by kernel_rfl] at this
        omega
    have hby0 : Bys l0 := fun x hx => bounds_u8 (hwf0 x hx)
    have hlt0 : ∀ x, a0 = some x → 0 < l0.length → x.block < W.heap.size := fun x hx h0 => by
      rcases hrow0 with ⟨h1, h2⟩ | ⟨y, h1, h2⟩
      · rw [h1] at hx; cases hx
      · rw [h1] at hx
        injection hx with hx
        subst hx
        exact World.block_lt_of_cell? W _ (h2 0 h0)
    subst hl0
    exact reads_any a0 cap0 l0 W hnil0 hnc0 (by omega) (hide_ hrow0) (hide_ hby0) (hide_ (tab_here hL))
  clear hA0
  refine walk.mono fun e W' ⟨he, bel⟩ => ?_
  subst he
  exact ⟨_, rfl, _, _, _, [], _, [], hW', trodAll_mk1 (shut_bool Tryd.underlying4 _), (trodAll_cons_mk (Below.trod laidOut (by kernel_rfl) (of_decide_eq_true (by kernel_rfl)) k0 bel lt0) trodAll_mk0), rfl, bel.frame _, fun h => by cases h⟩

def wit : Array Value := #[.slice none 0 0]
theorem laid_met (os : Os) : laidMet Tryd.prog Rows.codeReadsRow.laid ((laidIn (World.holding Tryd.prog os ⟨#[], #[], []⟩)).forCall (fun _ _ => 0) ⟨#[], wit, []⟩).memory :=
  laidMet_of_run' 8 (by kernel_rfl) (by kernel_rfl)
theorem reads (os : Os) {H : Type} (enc : TypeId × Value → H) : ∃ ds places, DataW.whole enc Tryd.prog ((laidIn (World.holding Tryd.prog os ⟨#[], #[], []⟩)).forCall (fun _ _ => 0) ⟨#[], wit, []⟩).memory Tryd.f8.params.toList Rows.codeReadsSpec.vars false wit.toList 8 = some (ds, [], places) :=
  ⟨[.nil], [], by kernel_rfl⟩

set_option maxRecDepth 100000 in
theorem lifted (os : Os) (started : os.Started) (H : Type) (enc : TypeId × Value → H) (F : Stop.Interp) :
    ReturnsInHanded {} Tryd.checked os 8 .any ((OpenSpec.ofChange Rows.codeReadsSpec).preRow enc Tryd.prog Tryd.f8 Rows.codeReadsRow.domain false Rows.codeReadsRow.laid) (((OpenSpec.ofChange Rows.codeReadsSpec).at F).post enc Tryd.prog Tryd.f8 false true false false) := by
  obtain ⟨ds, places, hx⟩ := reads os enc
  refine returnsInHanded_of_row (C := Tryd.checked) (s := OpenSpec.ofChange Rows.codeReadsSpec) own started (by kernel_rfl) Tryd.func8
    (witness_row_at (enc := enc) (C := Tryd.checked) false (laidIn (World.holding Tryd.prog os ⟨#[], #[], []⟩)) wit rfl (by kernel_rfl) (by kernel_rfl) (by kernel_rfl)
      (OpenSpec.preRow_of_cond 8 hx (by kernel_rfl) (fun k hk => by cases hk) (by kernel_rfl) (laid_met os))) ?_
  intro W base args ds gs before hval hW _ _ hsz hL _ _
  exact contract H enc W base args ds gs before hval hW hsz hL

theorem said : Rows.CodeReadsSaid :=
  OpenClaim.holds_of_cond 8 Tryd.f8 rfl rfl rfl rfl rfl rfl rfl ⟨rfl, rfl, rfl, rfl, rfl⟩ rfl rfl rfl rfl rfl (by kernel_rfl) Tryd.func8 (by kernel_rfl)
    (of_decide_eq_true (by kernel_rfl)) (by unfold Func.isWrapper; first | (rw [if_pos (by decide +kernel)]; kernel_rfl) | (rw [if_neg (by decide +kernel)]; exact ⟨rfl, rfl⟩))
    (fun os started H enc _ F => by rw [OpenClaim.pre_eq_preRow]; exact lifted os started H enc F)

theorem plain (f : FuncId) (fn : Func) (hf : Tryd.pinned.checked.prog.funcNamed "mortise/mortiselaw14.CodeReads" = some f) (hfn : Tryd.pinned.checked.prog.funcs[f]? = some fn) :
    false = Tryd.pinned.checked.prog.looks [] ∧ ∀ (j : Nat) t, fn.params[j]? = some t → Tryd.pinned.checked.prog.wantsStandIn t = false := by
  obtain rfl : f = 8 := Option.some.inj ((show Tryd.prog.funcNamed "mortise/mortiselaw14.CodeReads" = some 8 by kernel_rfl).symm.trans hf) |>.symm
  obtain rfl : fn = Tryd.f8 := (Option.some.inj (Tryd.func8.symm.trans hfn)).symm
  refine ⟨by kernel_rfl, fun j t ht => ?_⟩
  rw [Tryd.params8] at ht
  have hm := Array.mem_of_getElem? ht
  simp only [List.mem_toArray, List.mem_cons, List.not_mem_nil, or_false] at hm
  rcases hm with rfl <;> (show Tryd.prog.wantsStandIn _ = false; kernel_rfl)

theorem card : Rows.CodeReadsCardSaid :=
  Claim7.holds_tied_plain_at .later [] _ _ _ _ said (fun _ h => by cases h) (by kernel_rfl) (fun _ h => by cases h) codeReads_row_tie rfl ⟨rfl, rfl⟩ (by kernel_rfl) rfl plain (by kernel_rfl)
end Go.Proofs.YtjojbfendkodgaaDoor.codeReads
namespace Go.Proofs.YtjojbfendkodgaaDoor
theorem codeReads_holds : Rows.CodeReadsCardSaid := codeReads.card
#print axioms codeReads_holds
end Go.Proofs.YtjojbfendkodgaaDoor
