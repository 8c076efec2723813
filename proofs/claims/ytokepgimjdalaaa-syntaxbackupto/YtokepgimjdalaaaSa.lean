/- The grammar, plain: tokens, by their numbers, to definitions. -/
import Derived.Test.YtokepgimjdalaaaK
import Derived.Test.YtokepgimjdalaaaL
namespace Go.Proofs.Ytokepgimjdalaaa
set_option linter.unusedVariables false

/-- A token without its places. -/
structure Q where
  k : Int
  t : ByteArray
  n : Int
def q0 : Q := ⟨0, ⟨#[]⟩, 0⟩
def core (t : Tk) : Q := ⟨t.k, t.t, t.n⟩
/-- A node of a type expression. -/
structure Nd where
  k : Int
  n : Int
  name : ByteArray
  label : ByteArray
  tag : Int
  kids : Int
  a : Int
def nd0 : Nd := ⟨0, 0, ⟨#[]⟩, ⟨#[]⟩, 0, 0, 0⟩
/-- A definition. -/
structure Df where
  name : ByteArray
  a : Int
  ty : List Nd
/-- An answer, or an error at a token. -/
abbrev PR (α : Type) := Except (Nat × Nat) α
def bnd {α β : Type} (r : PR α) (f : α → PR β) : PR β :=
  match r with
  | .ok a => f a
  | .error e => .error e
theorem bnd_ok {α β : Type} (a : α) (f : α → PR β) : bnd (.ok a) f = f a := rfl
theorem bnd_err {α β : Type} (e : Nat × Nat) (f : α → PR β) : bnd (.error e) f = .error e := rfl
/-- The kind of a type that begins so (0: none), and the bytes of a uint. -/
def beg (t : ByteArray) : Int × Int :=
  if t = ⟨#[117, 56]⟩ then (1, 1) else if t = ⟨#[117, 49, 54]⟩ then (1, 2) else if t = ⟨#[117, 51, 50]⟩ then (1, 4) else if t = ⟨#[117, 54, 52]⟩ then (1, 8)
  else if t = ⟨#[98, 111, 111, 108]⟩ then (2, 0) else if t = ⟨#[118, 97, 114, 105, 110, 116]⟩ then (3, 0) else if t = ⟨#[118, 101, 99, 116, 111, 114]⟩ then (4, 0)
  else if t = ⟨#[108, 105, 115, 116]⟩ then (5, 0) else if t = ⟨#[111, 112, 116, 105, 111, 110]⟩ then (6, 0) else if t = ⟨#[117, 110, 105, 111, 110]⟩ then (7, 0)
  else if t = ⟨#[115, 116, 114, 117, 99, 116]⟩ then (8, 0) else if isName t then (9, 0) else (0, 0)
section
variable (qs : List Q)
def qAt (i : Nat) : Q := qs.getD i q0
def tak (may : Q → Bool) (i : Nat) : PR Nat := if may (qAt qs i) then .ok (i + 1) else .error (60, i)
def isT (s : ByteArray) (q : Q) : Bool := decide (q.t = s)
def isNm (q : Q) : Bool := isName q.t
def isNum (q : Q) : Bool := decide (q.k = 2)
def txt (s : ByteArray) (i : Nat) : PR Nat := tak qs (isT s) i
def itemsP (sub : Nd → Nat → PR (List Nd × Nat)) (i : Nat) : PR (List Nd × Int × Nat) :=
  bnd (txt qs ⟨#[60]⟩ i) fun i1 => bnd (sub { nd0 with a := i1 } i1) fun r => bnd (txt qs ⟨#[44]⟩ r.2) fun i3 => bnd (tak qs isNum i3) fun i4 => bnd (txt qs ⟨#[62]⟩ i4) fun i5 => .ok (r.1, (qAt qs i3).n, i5)
def optionP (sub : Nd → Nat → PR (List Nd × Nat)) (i : Nat) : PR (List Nd × Nat) :=
  bnd (txt qs ⟨#[60]⟩ i) fun i1 => bnd (sub { nd0 with a := i1 } i1) fun r => bnd (txt qs ⟨#[62]⟩ r.2) fun i3 => .ok (r.1, i3)
/-- Fields or arms behind the first; f: what bounds their number. -/
def moreP (one : Nat → Nat → PR (List Nd × Nat)) : Nat → Nat → List Nd → Nat → PR (List Nd × Nat × Nat)
  | 0, _, _, _ => .error (0, 0)
  | f + 1, c, N, i =>
    if isT ⟨#[44]⟩ (qAt qs i) then bnd (one c (i + 1)) fun r => moreP one f (c + 1) (N ++ r.1) r.2
    else bnd (txt qs ⟨#[125]⟩ i) fun j => .ok (N, c, j)
def partsP (one : Nat → Nat → PR (List Nd × Nat)) (i : Nat) : PR (List Nd × Nat × Nat) :=
  bnd (txt qs ⟨#[123]⟩ i) fun i1 => bnd (one 0 i1) fun r => moreP qs one 64 1 r.1 r.2
def partP (sub : Nd → Nat → PR (List Nd × Nat)) (x : Nd) (room : Bool) (i : Nat) : PR (List Nd × Nat) :=
  if room then bnd (txt qs ⟨#[58]⟩ i) fun i1 => sub x i1 else .error (5, x.a.toNat)
def armP (sub : Nd → Nat → PR (List Nd × Nat)) (c i : Nat) : PR (List Nd × Nat) :=
  bnd (tak qs isNum i) fun i1 => partP qs sub { nd0 with tag := (qAt qs i).n, a := i } (decide (c < 64)) i1
def fieldP (sub : Nd → Nat → PR (List Nd × Nat)) (c i : Nat) : PR (List Nd × Nat) :=
  bnd (tak qs isNm i) fun i1 => partP qs sub { nd0 with label := (qAt qs i).t, a := i } (decide (c < 64)) i1
/-- Behind a type's first token, at i: x has its kind and number. -/
def bodyP (sub : Nd → Nat → PR (List Nd × Nat)) (x : Nd) (i : Nat) : PR (List Nd × Nat) :=
  if x.k = 9 then .ok ([{ x with name := (qAt qs i).t }], i + 1)
  else if x.k = 4 ∨ x.k = 5 then bnd (itemsP qs sub (i + 1)) fun r => .ok ({ x with n := r.2.1, kids := 1 } :: r.1, r.2.2)
  else if x.k = 6 then bnd (optionP qs sub (i + 1)) fun r => .ok ({ x with kids := 1 } :: r.1, r.2)
  else if x.k = 7 then bnd (partsP qs (armP qs sub) (i + 1)) fun r => .ok ({ x with kids := r.2.1 } :: r.1, r.2.2)
  else if x.k = 8 then bnd (partsP qs (fieldP qs sub) (i + 1)) fun r => .ok ({ x with kids := r.2.1 } :: r.1, r.2.2)
  else .ok ([x], i + 1)
/-- A type that may hold others, f deep at most. -/
def nodeP : Nat → Nd → Nat → PR (List Nd × Nat)
  | 0, _, i => if (beg (qAt qs i).t).1 = 0 then .error (60, i) else .error (61, i)
  | f + 1, x, i => if (beg (qAt qs i).t).1 = 0 then .error (60, i) else bodyP qs (nodeP f) { x with k := (beg (qAt qs i).t).1, n := (beg (qAt qs i).t).2 } i
def defP (i : Nat) : PR (Df × Nat) :=
  bnd (tak qs isNm i) fun i1 => bnd (txt qs ⟨#[61]⟩ i1) fun i2 => bnd (nodeP qs 17 { nd0 with a := i2 } i2) fun r => bnd (txt qs ⟨#[59]⟩ r.2) fun i4 => .ok (⟨(qAt qs i).t, i, r.1⟩, i4)
/-- The definitions from here on; f: how many more, and one, may come. -/
def srcP : Nat → List Df → Nat → PR (List Df)
  | 0, _, _ => .error (0, 0)
  | f + 1, D, i => if i < qs.length then bnd (txt qs ⟨#[116, 121, 112, 101]⟩ i) fun i1 => if f = 0 then .error (5, i) else bnd (defP qs i1) fun r => srcP f (D ++ [r.1]) r.2 else .ok D
end
/-! ### Places -/
def tkAt (ts : List Tk) (L i : Nat) : Tk := if i < ts.length then ts.getD i tk0 else ⟨0, ⟨#[]⟩, 0, L, 0⟩
def plc (ts : List Tk) (L i : Nat) : Nat := (tkAt ts L i).a
def ndP (ts : List Tk) (L : Nat) (x : Nd) : Nd := { x with a := plc ts L x.a.toNat }
def dfP (ts : List Tk) (L : Nat) (d : Df) : Df := ⟨d.name, plc ts L d.a.toNat, d.ty.map (ndP ts L)⟩
/-- Parse's answer. -/
def prsP (ts : List Tk) (L : Nat) : List Df × Nat × Nat :=
  match srcP (ts.map core) 257 [] 0 with
  | .ok D => (D.map (dfP ts L), 0, 0)
  | .error e => ([], e.1, plc ts L e.2)
def prsT (s : ByteArray) : List Df × Nat × Nat := if (cutT s).2.1 = 0 then prsP (cutT s).1 s.size else ([], (cutT s).2.1, (cutT s).2.2)
theorem core_at (ts : List Tk) (L i : Nat) : qAt (ts.map core) i = core (tkAt ts L i) := by
  unfold qAt tkAt
  by_cases h : i < ts.length
  · rw [if_pos h]
    simp [List.getD, h]
  · rw [if_neg h]
    simp [List.getD, h, core, q0]
/-! ### It ends behind its beginning -/
theorem tak_ok {qs : List Q} {m : Q → Bool} {i j : Nat} (h : tak qs m i = .ok j) : j = i + 1 ∧ m (qAt qs i) = true := by
  unfold tak at h
  split at h
  · rename_i hm; injection h with h; exact ⟨h.symm, hm⟩
  · cases h
theorem bnd_is {α β : Type} {r : PR α} {f : α → PR β} {b : β} (h : bnd r f = .ok b) : ∃ a, r = .ok a ∧ f a = .ok b := by
  cases r with
  | ok a => exact ⟨a, rfl, h⟩
  | error e => cases h
end Go.Proofs.Ytokepgimjdalaaa
