import Derived.Test.YtlbgdgobhiokpaaDoorPart01
import Derived.Test.YtlbgdgobhiokpaaDoorPart16
import Derived.Test.YtlbgdgobhiokpaaDoorPart17

/- ValueArena: two arenas of the program, two of the document, the book: apart from one another. -/
namespace Go.Proofs.YtlbgdgobhiokpaaDoor
open Go.RowKit
set_option linter.unusedVariables false

structure AD where
  b : Nat
  vn : Value
  vs : Value
  vm : Value
  N : List Nd
  S : Stk
  G : Stk
structure RD where
  b : Nat
  vl : Value
  R : List Md
structure BD where
  bt : Nat
  vL : Value
  vM : Value
  N : Nat
  F : Nat → Value
  G : Nat → Value
  s : Nat → Nat
def anA (B : Nat) (d : AD) : Asn := ⟨Ft d.b d.vn d.vs d.vm, fun w => An B w d.b d.vn d.vs d.vm d.N d.S d.G⟩
def raA (B : Nat) (d : RD) : Asn := ⟨FtR d.b d.vl, fun w => RA B w d.b d.vl d.R⟩
def bkA (B : Nat) (d : BD) : Asn := ⟨fun q => q = d.bt ∨ FK d.vL d.vM d.N d.F d.G q, fun w => BkSt B w d.bt d.vL d.vM (.slice none 0 0) (.slice none 0 0) d.N d.F d.G d.s⟩
def blA (B : Nat) (g : Nat) (t : TypeId) (xs : List Value) : Asn := ⟨fun q => q = g, fun w => B ≤ g ∧ Blk w g t xs⟩
theorem anA_good (B : Nat) (d : AD) : Good B (anA B d) := ⟨fun w k h hk => An.feet h hk, fun S w w' h hu hd => An.upd h hu hd⟩
theorem raA_good (B : Nat) (d : RD) : Good B (raA B d) := ⟨fun w k h hk => RA.feet h hk, fun S w w' h hu hd => RA.upd h hu hd⟩
theorem bkA_good (B : Nat) (d : BD) : Good B (bkA B d) := by
  refine ⟨fun w k h hk => ?_, fun S w w' h hu hd => BkSt.upd h hu hd⟩
  have h' : BkSt B w d.bt d.vL d.vM (.slice none 0 0) (.slice none 0 0) d.N d.F d.G d.s := h
  rcases hk with rfl | hk
  · exact ⟨h'.hb, h'.t.lt⟩
  · exact h'.h.lt k hk
theorem blA_good (B : Nat) (g : Nat) (t : TypeId) (xs : List Value) : Good B (blA B g t xs) := by
  refine ⟨fun w k h hk => ?_, fun S w w' h hu hd => ⟨h.1, h.2.upd hu (hd g rfl)⟩⟩
  have hk' : k = g := hk
  subst hk'
  exact ⟨h.1, h.2.lt⟩
/-- Which: 0, 1: the program's arenas; 2, 3: the document's; 4: the book; 5, 6: the arrays of pointers. -/
def famA (B : Nat) (a : Nat → AD) (r : Nat → RD) (k : BD) (bp br : Nat) (px rx : List Value) (c : Nat) : Asn :=
  if c < 2 then anA B (a c) else if c < 4 then raA B (r (c - 2)) else if c = 4 then bkA B k else if c = 5 then blA B bp 60 px else blA B br 65 rx
def ptr (b : Nat) : Value := .pointer (some ⟨b, 0, none⟩)
structure Tb (B : Nat) (w : World) (a : Nat → AD) (r : Nat → RD) (k : BD) (bp br : Nat) : Prop where
  sep : Sep 7 B w (famA B a r k bp br [ptr (a 0).b, ptr (a 1).b] [ptr (r 0).b, ptr (r 1).b])
  pl : ∀ W, W < 2 → Inv (a W).N (a W).S (a W).G ∧ Rel (a W).N (a W).S (r W).R ∧ Cnt (a W).N (a W).G (r W).R ∧ NatM (r W).R
section
variable {B : Nat} {w w' : World} {a : Nat → AD} {r : Nat → RD} {k : BD} {bp br : Nat}
theorem Tb.an (t : Tb B w a r k bp br) (W : Nat) (hW : W < 2) : An B w (a W).b (a W).vn (a W).vs (a W).vm (a W).N (a W).S (a W).G := by
  have h := t.sep.at_ W (by omega)
  unfold famA at h
  rw [if_pos hW] at h
  exact h
theorem Tb.ra (t : Tb B w a r k bp br) (W : Nat) (hW : W < 2) : RA B w (r W).b (r W).vl (r W).R := by
  have h := t.sep.at_ (W + 2) (by omega)
  unfold famA at h
  rw [if_neg (by omega), if_pos (by omega), Nat.add_sub_cancel] at h
  exact h
theorem Tb.bk (t : Tb B w a r k bp br) : BkSt B w k.bt k.vL k.vM (.slice none 0 0) (.slice none 0 0) k.N k.F k.G k.s := t.sep.at_ 4 (by omega)
theorem Tb.bpb (t : Tb B w a r k bp br) : Blk w bp 60 [ptr (a 0).b, ptr (a 1).b] := (show B ≤ bp ∧ Blk w bp 60 [ptr (a 0).b, ptr (a 1).b] from t.sep.at_ 5 (by omega)).2
theorem Tb.brb (t : Tb B w a r k bp br) : Blk w br 65 [ptr (r 0).b, ptr (r 1).b] := (show B ≤ br ∧ Blk w br 65 [ptr (r 0).b, ptr (r 1).b] from t.sep.at_ 6 (by omega)).2
theorem Tb.pc (t : Tb B w a r k bp br) (W : Nat) (hW : W < 2) : w.cell? ⟨bp, W, none⟩ = some (ptr (a W).b) := by
  rw [t.bpb.cell]
  match W, hW with
  | 0, _ => rfl
  | 1, _ => rfl
theorem Tb.rc (t : Tb B w a r k bp br) (W : Nat) (hW : W < 2) : w.cell? ⟨br, W, none⟩ = some (ptr (r W).b) := by
  rw [t.brb.cell]
  match W, hW with
  | 0, _ => rfl
  | 1, _ => rfl
theorem Tb.base (t : Tb B w a r k bp br) : B ≤ w.heap.size := (t.an 0 (by omega)).base
theorem Tb.later (t : Tb B w a r k bp br) (hB : Below w.heap.size w w') : Tb B w' a r k bp br := ⟨t.sep.later hB, t.pl⟩
theorem Tb.below {w0 : World} (t : Tb B w a r k bp br) {c : Nat} (hc : c < 7) {S : Nat → Prop} (hu : Upd S w w') (hS : ∀ q, S q → (famA B a r k bp br [ptr (a 0).b, ptr (a 1).b] [ptr (r 0).b, ptr (r 1).b] c).foot q) : Below B w w' := hu.below B t.base fun q hq => (t.sep.lt c hc q (hS q hq)).1
/-- An arena of the program turns. -/
theorem Tb.seta (t : Tb B w a r k bp br) (W : Nat) (hW : W < 2) {vn vs vm : Value} {N : List Nd} {S G : Stk} (hA : An B w' (a W).b vn vs vm N S G) (hm : Mv (a W).b (a W).vn (a W).vs (a W).vm w vn vs vm w') :
    Sep 7 B w' (famA B (ext a W ⟨(a W).b, vn, vs, vm, N, S, G⟩) r k bp br [ptr (a 0).b, ptr (a 1).b] [ptr (r 0).b, ptr (r 1).b]) := by
  have hfe : famA B a r k bp br [ptr (a 0).b, ptr (a 1).b] [ptr (r 0).b, ptr (r 1).b] W = anA B (a W) := by unfold famA; rw [if_pos hW]
  refine (t.sep.set (a := anA B ⟨(a W).b, vn, vs, vm, N, S, G⟩) W (by omega) hm.upd (fun q _ hq => .inl (by rw [hfe]; exact hq)) hA (anA_good _ _) (fun q hq => ?_)).congr fun c hc => ?_
  · rcases hm.feet q hq with h | h
    · exact .inl (by rw [hfe]; exact h)
    · exact .inr (.inl h)
  · by_cases e : c = W
    · subst e
      rw [ext_at]
      unfold famA
      rw [if_pos hW, ext_at]
    · rw [ext_ne _ _ _ _ e]
      unfold famA
      by_cases h2 : c < 2
      · rw [if_pos h2, if_pos h2, ext_ne _ _ _ _ e]
      · rw [if_neg h2, if_neg h2]
theorem Sep.setr {a : Nat → AD} {r : Nat → RD} {k : BD} {px rx : List Value} (t : Sep 7 B w (famA B a r k bp br px rx)) (W : Nat) (hW : W < 2) {vl : Value} {R : List Md} (hA : RA B w' (r W).b vl R) (hu : Upd (FtR (r W).b (r W).vl) w w') (hf : ∀ q, FtR (r W).b vl q → FtR (r W).b (r W).vl q ∨ w.heap.size ≤ q) :
    Sep 7 B w' (famA B a (ext r W ⟨(r W).b, vl, R⟩) k bp br px rx) := by
  have hfe : famA B a r k bp br px rx (W + 2) = raA B (r W) := by unfold famA; rw [if_neg (by omega), if_pos (by omega), Nat.add_sub_cancel]
  refine (t.set (a := raA B ⟨(r W).b, vl, R⟩) (W + 2) (by omega) hu (fun q _ hq => .inl (by rw [hfe]; exact hq)) hA (raA_good _ _) (fun q hq => ?_)).congr fun c hc => ?_
  · rcases hf q hq with h | h
    · exact .inl (by rw [hfe]; exact h)
    · exact .inr (.inl h)
  · by_cases e : c = W + 2
    · subst e
      rw [ext_at]
      unfold famA
      rw [if_neg (by omega), if_pos (by omega), Nat.add_sub_cancel, ext_at]
    · rw [ext_ne _ _ _ _ e]
      unfold famA
      by_cases h2 : c < 2
      · rw [if_pos h2, if_pos h2]
      · rw [if_neg h2, if_neg h2]
        by_cases h3 : c < 4
        · rw [if_pos h3, if_pos h3, ext_ne _ _ _ _ (by omega)]
        · rw [if_neg h3, if_neg h3]
theorem ptrs_ext (a : Nat → AD) (W : Nat) (d : AD) (h : d.b = (a W).b) : [ptr (a 0).b, ptr (a 1).b] = [ptr (ext a W d 0).b, ptr (ext a W d 1).b] := by
  unfold ext
  by_cases h0 : 0 = W
  · subst h0
    rw [if_pos rfl, if_neg (by omega), h]
  · rw [if_neg h0]
    by_cases h1 : 1 = W
    · subst h1; rw [if_pos rfl, h]
    · rw [if_neg h1]
theorem ptrs_extR (a : Nat → RD) (W : Nat) (d : RD) (h : d.b = (a W).b) : [ptr (a 0).b, ptr (a 1).b] = [ptr (ext a W d 0).b, ptr (ext a W d 1).b] := by
  unfold ext
  by_cases h0 : 0 = W
  · subst h0
    rw [if_pos rfl, if_neg (by omega), h]
  · rw [if_neg h0]
    by_cases h1 : 1 = W
    · subst h1; rw [if_pos rfl, h]
    · rw [if_neg h1]
/-- A list that lies apart from all goes into the book. -/
theorem Tb.keep (t : Tb B w a r k bp br) {v : Value} (hap : ∀ q, v.ownBlock = some q → ∀ c, c < 7 → ¬ (famA B a r k bp br [ptr (a 0).b, ptr (a 1).b] [ptr (r 0).b, ptr (r 1).b] c).foot q) (hk : KeepN B w w' k.bt k.vL k.vM (.slice none 0 0) (.slice none 0 0) k.N k.F k.G v) :
    ∃ k', Tb B w' a r k' bp br ∧ k'.N = k.N + 1 ∧ k'.bt = k.bt ∧ (∀ q, (bkA B k').foot q → (bkA B k).foot q ∨ v.ownBlock = some q ∨ w.heap.size ≤ q) ∧ Upd (fun q => v.ownBlock = some q ∨ (bkA B k).foot q) w w' := by
  obtain ⟨vL', vM', F', G', s', h1, h2, h3⟩ := hk
  refine ⟨⟨k.bt, vL', vM', k.N + 1, F', G', s'⟩, ⟨?_, t.pl⟩, rfl, rfl, ?_, ?_⟩
  · have hfe : famA B a r k bp br [ptr (a 0).b, ptr (a 1).b] [ptr (r 0).b, ptr (r 1).b] 4 = bkA B k := rfl
    refine (t.sep.set (a := bkA B ⟨k.bt, vL', vM', k.N + 1, F', G', s'⟩) 4 (by omega) h2 (fun q _ hq => ?_) h1 (bkA_good _ _) (fun q hq => ?_)).congr fun c hc => ?_
    · rw [hfe]
      rcases hq with h | h | h
      · exact .inl (.inl h)
      · exact .inr (hap q h)
      · exact .inl (.inr h)
    · rw [hfe]
      rcases hq with h | h
      · exact .inl (.inl h)
      · rcases h3 q h with h4 | h4 | h4
        · exact .inl (.inr h4)
        · exact .inr (.inr (hap q h4))
        · exact .inr (.inl h4)
    · by_cases e : c = 4
      · subst e; rw [ext_at]; rfl
      · rw [ext_ne _ _ _ _ e]
        unfold famA
        by_cases h2 : c < 2
        · rw [if_pos h2, if_pos h2]
        · rw [if_neg h2, if_neg h2]
          by_cases h3 : c < 4
          · rw [if_pos h3, if_pos h3]
          · rw [if_neg h3, if_neg h3, if_neg e, if_neg e]
  · rintro q (h | h)
    · exact .inl (.inl h)
    · rcases h3 q h with h4 | h4 | h4
      · exact .inl (.inr h4)
      · exact .inr (.inl h4)
      · exact .inr (.inr h4)
  · refine h2.mono fun q _ hq => ?_
    rcases hq with h | h | h
    · exact .inr (.inl h)
    · exact .inl h
    · exact .inr (.inr h)
end
/-- At the beginning. -/
theorem Tb.begin {B : Nat} {w : World} {b0 b1 bp r0 r1 br bt : Nat} (h0 : Blk w b0 101 [.slice none 0 0, .slice none 0 0, .map none]) (h1 : Blk w b1 101 [.slice none 0 0, .slice none 0 0, .map none]) (h2 : Blk w bp 60 [ptr b0, ptr b1]) (h3 : Blk w r0 64 [.slice none 0 0]) (h4 : Blk w r1 64 [.slice none 0 0]) (h5 : Blk w br 65 [ptr r0, ptr r1]) (h6 : Blk w bt 70 [.slice none 0 0, .slice none 0 0, .slice none 0 0, .slice none 0 0])
    (o0 : B ≤ b0) (o1 : b0 < b1) (o2 : b1 < bp) (o3 : bp < r0) (o4 : r0 < r1) (o5 : r1 < br) (o6 : br < bt) :
    Tb B w (fun W => if W = 0 then ⟨b0, .slice none 0 0, .slice none 0 0, .map none, [], [], []⟩ else ⟨b1, .slice none 0 0, .slice none 0 0, .map none, [], [], []⟩) (fun W => if W = 0 then ⟨r0, .slice none 0 0, []⟩ else ⟨r1, .slice none 0 0, []⟩) ⟨bt, .slice none 0 0, .slice none 0 0, 0, fun _ => .slice none 0 0, fun _ => .slice none 0 0, fun _ => 0⟩ bp br := by
  have hft : ∀ b q, Ft b (.slice none 0 0) (.slice none 0 0) (.map none) q → q = b := fun b q h => by
    rcases h with h | h | h | h
    · exact h
    · cases h
    · cases h
    · cases h
  have hfr : ∀ b q, FtR b (.slice none 0 0) q → q = b := fun b q h => by
    rcases h with h | h
    · exact h
    · cases h
  have key : ∀ c, c < 7 → ∀ q, (famA B (fun W => if W = 0 then ⟨b0, .slice none 0 0, .slice none 0 0, .map none, [], [], []⟩ else ⟨b1, .slice none 0 0, .slice none 0 0, .map none, [], [], []⟩) (fun W => if W = 0 then ⟨r0, .slice none 0 0, []⟩ else ⟨r1, .slice none 0 0, []⟩) ⟨bt, .slice none 0 0, .slice none 0 0, 0, fun _ => .slice none 0 0, fun _ => .slice none 0 0, fun _ => 0⟩ bp br [ptr b0, ptr b1] [ptr r0, ptr r1] c).foot q →
      q = (if c = 0 then b0 else if c = 1 then b1 else if c = 2 then r0 else if c = 3 then r1 else if c = 4 then bt else if c = 5 then bp else br) := by
    intro c hc q hq
    match c, hc with
    | 0, _ => exact hft b0 q hq
    | 1, _ => exact hft b1 q hq
    | 2, _ => exact hfr r0 q hq
    | 3, _ => exact hfr r1 q hq
    | 4, _ =>
      rcases hq with h | h | h | ⟨j, hj, _⟩
      · exact h
      · cases h
      · cases h
      · exact absurd hj (Nat.not_lt_zero _)
    | 5, _ => exact hq
    | 6, _ => exact hq
  refine ⟨⟨fun c hc => ?_, fun c hc => ?_, fun c d hc hd hn q h1 h2 => ?_⟩, fun W hW => ?_⟩
  · match c, hc with
    | 0, _ => exact ⟨h0, o0, World.ownsRow_nil _ _ _ _, World.ownsRow_nil _ _ _ _, .inl ⟨rfl, rfl⟩⟩
    | 1, _ => exact ⟨h1, by show B ≤ b1; omega, World.ownsRow_nil _ _ _ _, World.ownsRow_nil _ _ _ _, .inl ⟨rfl, rfl⟩⟩
    | 2, _ => exact ⟨h3, by show B ≤ r0; omega, World.ownsRow_nil _ _ _ _⟩
    | 3, _ => exact ⟨h4, by show B ≤ r1; omega, World.ownsRow_nil _ _ _ _⟩
    | 4, _ => exact ⟨Half.none _ _ _ _ _ _, h6, by show B ≤ bt; omega⟩
    | 5, _ => exact ⟨by show B ≤ bp; omega, h2⟩
    | 6, _ => exact ⟨by show B ≤ br; omega, h5⟩
  · match c, hc with
    | 0, _ => exact anA_good _ _
    | 1, _ => exact anA_good _ _
    | 2, _ => exact raA_good _ _
    | 3, _ => exact raA_good _ _
    | 4, _ => exact bkA_good _ _
    | 5, _ => exact blA_good _ _ _ _
    | 6, _ => exact blA_good _ _ _ _
  · have e1 := key c hc q h1
    have e2 := key d hd q h2
    rw [e1] at e2
    have : ∀ c d : Nat, c < 7 → d < 7 → c ≠ d → (if c = 0 then b0 else if c = 1 then b1 else if c = 2 then r0 else if c = 3 then r1 else if c = 4 then bt else if c = 5 then bp else br) ≠ (if d = 0 then b0 else if d = 1 then b1 else if d = 2 then r0 else if d = 3 then r1 else if d = 4 then bt else if d = 5 then bp else br) := by
      intro c d hc hd hn
      repeat' split
      all_goals omega
    exact this c d hc hd hn e2
  · have hn : NatM [] := fun p => by simp [md0]
    match W, hW with
    | 0, _ => exact ⟨Inv.empty, Rel.empty, Cnt.empty, hn⟩
    | 1, _ => exact ⟨Inv.empty, Rel.empty, Cnt.empty, hn⟩
end Go.Proofs.YtlbgdgobhiokpaaDoor

/- ValueArena: both Values answer alike; steps of the table. -/
namespace Go.Proofs.YtlbgdgobhiokpaaDoor
open Go.RowKit
set_option linter.unusedVariables false

def valC (N : List Nd) (G : Stk) : Int := if wholeB N G = true then 0 else 40
def valL (N : List Nd) (S G : Stk) : List Nd := if wholeB N G = true then vOf N (chS N S) 0 else []
theorem valL_len {N : List Nd} {S G : Stk} {R : List Md} (hi : Inv N S G) (hr : Rel N S R) (hc : Cnt N G R) : (valL N S G).length ≤ N.length := by
  unfold valL
  split
  · rename_i hw; exact vOf_len hi hr hc hw
  · simp
theorem valueA_any (B b : Nat) (vn vs vm : Value) (N : List Nd) (S G : Stk) (R : List Md) (w : World) (hA : Hid (An B w b vn vs vm N S G)) (hN : N.length ≤ 1000) (hi : Hid (Inv N S G)) (hr : Hid (Rel N S R)) (hc : Hid (Cnt N G R)) :
    Calls Tryd.prog 25 #[.pointer (some ⟨b, 0, none⟩)] w fun e w' => ∃ v, e = .returned (.tuple #[v, .int .i64 (valC N G)]) ∧ Hid (w'.ownsRow w.heap.size 37 3 v (valL N S G).length (cellsN (valL N S G))) ∧ Hid (Below w.heap.size w w') := by
  by_cases hw : wholeB N G = true
  · have hw' := hw
    unfold wholeB at hw'
    simp only [Bool.and_eq_true, decide_eq_true_eq] at hw'
    obtain ⟨_, h0, h1⟩ := hw'
    obtain rfl := List.length_eq_zero_iff.1 h1
    obtain ⟨T, hT⟩ : ∃ T, N.length = T + 1 := ⟨N.length - 1, by omega⟩
    have hsum := hi.out.sum (by omega)
    have hlen := vOf_len hi.out hr.out hc.out hw
    refine (valueA_ok B b T vn vs vm N _ S [] (chS N S) w hA (by omega) hT hw (by show _ = _; simp at hsum; omega) hi.out.pos hi.out.len hi.out.spots hi.out.kids rfl (by omega)).mono ?_
    rintro e w' ⟨v, rfl, h2, h3⟩
    have e1 : valC N [] = 0 := by rw [valC, if_pos hw]
    have e2 : valL N S [] = vOf N (chS N S) 0 := by rw [valL, if_pos hw]
    rw [e1, e2]
    exact ⟨v, rfl, h2, h3⟩
  · have hw' : wholeB N G = false := by simpa using hw
    refine (valueA_err B b vn vs vm N S G w hA (by omega) hw').mono ?_
    rintro e w' ⟨rfl, h3⟩
    have e1 : valC N G = 40 := by rw [valC, if_neg hw]
    have e2 : valL N S G = [] := by rw [valL, if_neg hw]
    rw [e1, e2]
    exact ⟨_, rfl, World.ownsRow_nil _ _ _ _, h3⟩
theorem refV_any (B b : Nat) (vl : Value) (N : List Nd) (S G : Stk) (R : List Md) (w : World) (hA : Hid (RA B w b vl R)) (hN : N.length ≤ 1000) (hi : Hid (Inv N S G)) (hr : Hid (Rel N S R)) (hc : Hid (Cnt N G R)) (hn : Hid (NatM R)) :
    Calls Tryd.prog 28 #[.pointer (some ⟨b, 0, none⟩)] w fun e w' => ∃ v, e = .returned (.tuple #[v, .int .i64 (valC N G)]) ∧ Hid (w'.ownsRow w.heap.size 37 3 v (valL N S G).length (cellsN (valL N S G))) ∧ Hid (Below w.heap.size w w') := by
  have hv : valD R = if wholeB N G = true then some (vOf N (chS N S) 0) else none := by
    unfold valD
    by_cases h0 : R.length = 0
    · have hnw : wholeB N G ≠ true := fun h => by
        unfold wholeB at h
        simp only [Bool.and_eq_true, decide_eq_true_eq] at h
        have := hr.out.len
        omega
      rw [if_pos h0, if_neg hnw]
    · rw [if_neg h0]
      have h1 : 0 < N.length := by have := hr.out.len; omega
      by_cases hw : wholeB N G = true
      · rw [if_pos hw]
        exact told_of hi.out hr.out hc.out hw _ 0 h1 (by rw [hr.out.len]; omega)
      · rw [if_neg hw]
        cases ht : toldD R R.length 0 with
        | none => rfl
        | some l => exact absurd (told_back hi.out hr.out hc.out h1 _ (by rw [hr.out.len]; exact Nat.le_refl _) l ht) hw
  refine (valueD_any B b vl R w hA (by have := hr.out.len; omega) hn (hr.out.ok hi.out)).mono ?_
  rintro e w' ⟨h1, ⟨l, v', rfl, h2, h3⟩ | ⟨rfl, h2⟩⟩
  · have h4 := hv.symm.trans h2.out
    split at h4
    · rename_i hw
      have h5 := Option.some.inj h4
      rw [valC, valL, if_pos hw, if_pos hw, h5]
      exact ⟨v', rfl, h3, h1⟩
    · cases h4
  · have h4 := hv.symm.trans h2.out
    split at h4
    · cases h4
    · rename_i hw
      rw [valC, valL, if_neg hw, if_neg hw]
      exact ⟨_, rfl, World.ownsRow_nil _ _ _ _, h1⟩
theorem NatM.add {R : List Md} (h : NatM R) {x : Md} (hx : 0 ≤ x.2.1 ∧ x.2.1 ≤ 18446744073709551615) : NatM (R ++ [x]) := fun p => by
  rw [getD_snocM]
  split
  · exact hx
  · exact h p
section
variable {B : Nat} {w w' w2 : World} {A : Nat → AD} {R : Nat → RD} {K : BD} {bp br : Nat}
theorem sep_pc {A' : Nat → AD} {rx : List Value} (t : Sep 7 B w (famA B A' R K bp br [ptr (A 0).b, ptr (A 1).b] rx)) (W : Nat) (hW : W < 2) : w.cell? ⟨bp, W, none⟩ = some (.pointer (some ⟨(A W).b, 0, none⟩)) := by
  rw [(show B ≤ bp ∧ Blk w bp 60 [ptr (A 0).b, ptr (A 1).b] from t.at_ 5 (by omega)).2.cell]
  match W, hW with
  | 0, _ => rfl
  | 1, _ => rfl
theorem sep_rc {R' : Nat → RD} {px : List Value} (t : Sep 7 B w (famA B A R' K bp br px [ptr (R 0).b, ptr (R 1).b])) (W : Nat) (hW : W < 2) : w.cell? ⟨br, W, none⟩ = some (.pointer (some ⟨(R W).b, 0, none⟩)) := by
  rw [(show B ≤ br ∧ Blk w br 65 [ptr (R 0).b, ptr (R 1).b] from t.at_ 6 (by omega)).2.cell]
  match W, hW with
  | 0, _ => rfl
  | 1, _ => rfl
theorem sep_ra {px rx : List Value} (t : Sep 7 B w (famA B A R K bp br px rx)) (W : Nat) (hW : W < 2) : RA B w (R W).b (R W).vl (R W).R := by
  have h := t.at_ (W + 2) (by omega)
  unfold famA at h
  rw [if_neg (by omega), if_pos (by omega), Nat.add_sub_cancel] at h
  exact h
/-- A node is added to both. -/
theorem Tb.added (t : Tb B w A R K bp br) (W : Nat) (hW : W < 2) {vn vs vm vl : Value} {p k kind n : Int} (hn : 0 ≤ n ∧ n ≤ 18446744073709551615) (hE : addGE (A W).N (A W).G p k kind n = 0)
    (hs : Sep 7 B w' (famA B (ext A W ⟨(A W).b, vn, vs, vm, addN1 (A W).N (A W).G p k kind n, (A W).S ++ [(p, k)], addG1 (A W).N (A W).G p k⟩) (ext R W ⟨(R W).b, vl, (R W).R ++ [addM (R W).R p k kind n]⟩) K bp br [ptr (A 0).b, ptr (A 1).b] [ptr (R 0).b, ptr (R 1).b])) :
    Tb B w' (ext A W ⟨(A W).b, vn, vs, vm, addN1 (A W).N (A W).G p k kind n, (A W).S ++ [(p, k)], addG1 (A W).N (A W).G p k⟩) (ext R W ⟨(R W).b, vl, (R W).R ++ [addM (R W).R p k kind n]⟩) K bp br := by
  refine ⟨?_, fun V hV => ?_⟩
  · have e1 := ptrs_ext A W ⟨(A W).b, vn, vs, vm, addN1 (A W).N (A W).G p k kind n, (A W).S ++ [(p, k)], addG1 (A W).N (A W).G p k⟩ rfl
    have e2 := ptrs_extR R W ⟨(R W).b, vl, (R W).R ++ [addM (R W).R p k kind n]⟩ rfl
    rw [e1, e2] at hs
    exact hs
  · by_cases e : V = W
    · subst e
      rw [ext_at, ext_at]
      obtain ⟨h1, h2, h3, h4⟩ := t.pl V hV
      have href : refuseG (A V).N (A V).G p k = 0 := by
        unfold addGE at hE
        split at hE
        · exact hE
        · omega
      have hx : (addM (R V).R p k kind n).1 = kind ∧ (addM (R V).R p k kind n).2.1 = n ∧ ((A V).N.length ≠ 0 → (addM (R V).R p k kind n).2.2 = (p, k)) := by
        unfold addM
        split
        · rename_i h0
          exact ⟨rfl, rfl, fun h => absurd (h2.len.symm.trans h0) h⟩
        · exact ⟨rfl, rfl, fun _ => rfl⟩
      exact ⟨h1.add kind n href, h2.add h1 p k kind n hx, h3.add h1 h2 kind n hx href, h4.add (by rw [hx.2.1]; exact hn)⟩
    · rw [ext_ne _ _ _ _ e, ext_ne _ _ _ _ e]
      exact t.pl V hV
/-- New memory lies apart from all. -/
theorem Tb.apart (t : Tb B w A R K bp br) {v : Value} (h : ∀ q, v.ownBlock = some q → w.heap.size ≤ q) : ∀ q, v.ownBlock = some q → ∀ c, c < 7 → ¬ (famA B A R K bp br [ptr (A 0).b, ptr (A 1).b] [ptr (R 0).b, ptr (R 1).b] c).foot q := fun q hq c hc hf => by
  have h1 := (t.sep.lt c hc q hf).2
  have h2 := h q hq
  omega
/-- The same, behind a list that went into the book. -/
theorem Tb.apart2 {K' : BD} {v x : Value} (hap : ∀ q, x.ownBlock = some q → ∀ c, c < 7 → ¬ (famA B A R K bp br [ptr (A 0).b, ptr (A 1).b] [ptr (R 0).b, ptr (R 1).b] c).foot q) (hf : ∀ q, (bkA B K').foot q → (bkA B K).foot q ∨ v.ownBlock = some q ∨ w.heap.size ≤ q) (hlt : ∀ q, x.ownBlock = some q → q < w.heap.size) (hne : ∀ q, x.ownBlock = some q → v.ownBlock ≠ some q) :
    ∀ q, x.ownBlock = some q → ∀ c, c < 7 → ¬ (famA B A R K' bp br [ptr (A 0).b, ptr (A 1).b] [ptr (R 0).b, ptr (R 1).b] c).foot q := fun q hq c hc hfc => by
  by_cases e : c = 4
  · subst e
    rcases hf q hfc with h | h | h
    · exact hap q hq 4 hc h
    · exact hne q hq h
    · have := hlt q hq; omega
  · refine hap q hq c hc ?_
    have he : famA B A R K' bp br [ptr (A 0).b, ptr (A 1).b] [ptr (R 0).b, ptr (R 1).b] c = famA B A R K bp br [ptr (A 0).b, ptr (A 1).b] [ptr (R 0).b, ptr (R 1).b] c := by
      unfold famA
      by_cases h2 : c < 2
      · rw [if_pos h2, if_pos h2]
      · rw [if_neg h2, if_neg h2]
        by_cases h3 : c < 4
        · rw [if_pos h3, if_pos h3]
        · rw [if_neg h3, if_neg h3, if_neg e, if_neg e]
    rw [← he]
    exact hfc
end
theorem eqD_same (a1 a2 : Option Addr) (n k1 k2 : Nat) (l : List Nd) (w : World) (h1 : l.length = n) (hs : n ≤ 1000000) (r1 : Hid (NRow w a1 l)) (r2 : Hid (NRow w a2 l)) :
    Calls Tryd.prog 16 #[.slice a1 n k1, .slice a2 n k2] w fun e w' => e = .returned (.bool true) ∧ Below w.heap.size w w' := by
  refine (refEqual_any a1 a2 n n k1 k2 l l w h1 h1 hs hs r1 r2).mono ?_
  rintro e w' ⟨rfl, hB⟩
  exact ⟨by simp, hB⟩
end Go.Proofs.YtlbgdgobhiokpaaDoor
