/- The document's data, by program (tools/gendeep.py): structures, their readers, their bulk. -/
import Derived.Test.YtpgefkdojplamaaDeep
namespace Go.Proofs.Ytpgefkdojplamaa
set_option linter.unusedVariables false
set_option maxRecDepth 100000
open Go.ChangeShapes Go.WideShapes Go.ChangeAt Go.RowKit
structure Tok_ where
  kind : Int
  n : Int
  s : ByteArray
  at_ : Int
def TokEl : ElRd Tok_ := fun w b o x => IntEl w b o x.kind ∧ IntEl w b (o + 1) x.n ∧ StrEl w b (o + 2) x.s ∧ IntEl w b (o + 3) x.at_
theorem TokEl.st : Stable TokEl := fun w w' b o x k hb ⟨h0, h1, h2, h3⟩ => ⟨IntEl.st w w' b _ _ k hb h0, IntEl.st w w' b _ _ k hb h1, StrEl.st w w' b _ _ k hb h2, IntEl.st w w' b _ _ k hb h3⟩
def bTok (x : Tok_) : Nat := x.s.size
structure TyI where
  var : Int
  name : ByteArray
  arity : Int
def TyIEl : ElRd TyI := fun w b o x => IntEl w b o x.var ∧ StrEl w b (o + 1) x.name ∧ IntEl w b (o + 2) x.arity
theorem TyIEl.st : Stable TyIEl := fun w w' b o x k hb ⟨h0, h1, h2⟩ => ⟨IntEl.st w w' b _ _ k hb h0, StrEl.st w w' b _ _ k hb h1, IntEl.st w w' b _ _ k hb h2⟩
def bTyI (x : TyI) : Nat := x.name.size
def TyEl : ElRd (List TyI) := RowEl 3 TyIEl
theorem TyEl.st : Stable TyEl := RowEl.st 3 TyIEl.st
def bTy (x : List TyI) : Nat := bulkL bTyI x
structure PN where
  kind : Int
  n : Int
  s : ByteArray
  kids : List Int
def PNEl : ElRd PN := fun w b o x => IntEl w b o x.kind ∧ IntEl w b (o + 1) x.n ∧ StrEl w b (o + 2) x.s ∧ (RowEl 1 IntEl) w b (o + 3) x.kids
theorem PNEl.st : Stable PNEl := fun w w' b o x k hb ⟨h0, h1, h2, h3⟩ => ⟨IntEl.st w w' b _ _ k hb h0, IntEl.st w w' b _ _ k hb h1, StrEl.st w w' b _ _ k hb h2, (RowEl.st 1 IntEl.st) w w' b _ _ k hb h3⟩
def bPN (x : PN) : Nat := x.s.size + bulkL bInt x.kids
def PatEl : ElRd (List PN) := RowEl 4 PNEl
theorem PatEl.st : Stable PatEl := RowEl.st 4 PNEl.st
def bPat (x : List PN) : Nat := bulkL bPN x
structure Cn where
  name : ByteArray
  has : Bool
  arg : List TyI
def CnEl : ElRd Cn := fun w b o x => StrEl w b o x.name ∧ BoolEl w b (o + 1) x.has ∧ TyEl w b (o + 2) x.arg
theorem CnEl.st : Stable CnEl := fun w w' b o x k hb ⟨h0, h1, h2⟩ => ⟨StrEl.st w w' b _ _ k hb h0, BoolEl.st w w' b _ _ k hb h1, TyEl.st w w' b _ _ k hb h2⟩
def bCn (x : Cn) : Nat := x.name.size + bTy x.arg
structure Tp where
  name : ByteArray
  params : Int
  cons : List Cn
def TpEl : ElRd Tp := fun w b o x => StrEl w b o x.name ∧ IntEl w b (o + 1) x.params ∧ (RowEl 3 CnEl) w b (o + 2) x.cons
theorem TpEl.st : Stable TpEl := fun w w' b o x k hb ⟨h0, h1, h2⟩ => ⟨StrEl.st w w' b _ _ k hb h0, IntEl.st w w' b _ _ k hb h1, (RowEl.st 3 CnEl.st) w w' b _ _ k hb h2⟩
def bTp (x : Tp) : Nat := x.name.size + bulkL bCn x.cons
structure Nd where
  kind : Int
  at_ : Int
  n : Int
  s : ByteArray
  kids : List Int
  pats : List (List PN)
def NdEl : ElRd Nd := fun w b o x => IntEl w b o x.kind ∧ IntEl w b (o + 1) x.at_ ∧ IntEl w b (o + 2) x.n ∧ StrEl w b (o + 3) x.s ∧ (RowEl 1 IntEl) w b (o + 4) x.kids ∧ (RowEl 1 PatEl) w b (o + 5) x.pats
theorem NdEl.st : Stable NdEl := fun w w' b o x k hb ⟨h0, h1, h2, h3, h4, h5⟩ => ⟨IntEl.st w w' b _ _ k hb h0, IntEl.st w w' b _ _ k hb h1, IntEl.st w w' b _ _ k hb h2, StrEl.st w w' b _ _ k hb h3, (RowEl.st 1 IntEl.st) w w' b _ _ k hb h4, (RowEl.st 1 PatEl.st) w w' b _ _ k hb h5⟩
def bNd (x : Nd) : Nat := x.s.size + bulkL bInt x.kids + bulkL bPat x.pats
structure Pg where
  types : List Tp
  nodes : List Nd
def PgEl : ElRd Pg := fun w b o x => (RowEl 3 TpEl) w b o x.types ∧ (RowEl 6 NdEl) w b (o + 1) x.nodes
theorem PgEl.st : Stable PgEl := fun w w' b o x k hb ⟨h0, h1⟩ => ⟨(RowEl.st 3 TpEl.st) w w' b _ _ k hb h0, (RowEl.st 6 NdEl.st) w w' b _ _ k hb h1⟩
def bPg (x : Pg) : Nat := bulkL bTp x.types + bulkL bNd x.nodes
structure Sb where
  var : Int
  ty : List TyI
def SbEl : ElRd Sb := fun w b o x => IntEl w b o x.var ∧ TyEl w b (o + 1) x.ty
theorem SbEl.st : Stable SbEl := fun w w' b o x k hb ⟨h0, h1⟩ => ⟨IntEl.st w w' b _ _ k hb h0, TyEl.st w w' b _ _ k hb h1⟩
def bSb (x : Sb) : Nat := bTy x.ty
structure DN where
  kind : Int
  n : Int
  s : ByteArray
  kids : List Int
def DNEl : ElRd DN := fun w b o x => IntEl w b o x.kind ∧ IntEl w b (o + 1) x.n ∧ StrEl w b (o + 2) x.s ∧ (RowEl 1 IntEl) w b (o + 3) x.kids
theorem DNEl.st : Stable DNEl := fun w w' b o x k hb ⟨h0, h1, h2, h3⟩ => ⟨IntEl.st w w' b _ _ k hb h0, IntEl.st w w' b _ _ k hb h1, StrEl.st w w' b _ _ k hb h2, (RowEl.st 1 IntEl.st) w w' b _ _ k hb h3⟩
def bDN (x : DN) : Nat := x.s.size + bulkL bInt x.kids
def DataEl : ElRd (List DN) := RowEl 4 DNEl
theorem DataEl.st : Stable DataEl := RowEl.st 4 DNEl.st
def bData (x : List DN) : Nat := bulkL bDN x
structure Oc where
  kind : Int
  n : Int
  trace : List ByteArray
  steps : Int
def OcEl : ElRd Oc := fun w b o x => IntEl w b o x.kind ∧ IntEl w b (o + 1) x.n ∧ (RowEl 1 StrEl) w b (o + 2) x.trace ∧ IntEl w b (o + 3) x.steps
theorem OcEl.st : Stable OcEl := fun w w' b o x k hb ⟨h0, h1, h2, h3⟩ => ⟨IntEl.st w w' b _ _ k hb h0, IntEl.st w w' b _ _ k hb h1, (RowEl.st 1 StrEl.st) w w' b _ _ k hb h2, IntEl.st w w' b _ _ k hb h3⟩
def bOc (x : Oc) : Nat := bulkL bStr x.trace
structure Ins_ where
  op : Int
  a : Int
  b : Int
  s : ByteArray
def InsEl : ElRd Ins_ := fun w b o x => IntEl w b o x.op ∧ IntEl w b (o + 1) x.a ∧ IntEl w b (o + 2) x.b ∧ StrEl w b (o + 3) x.s
theorem InsEl.st : Stable InsEl := fun w w' b o x k hb ⟨h0, h1, h2, h3⟩ => ⟨IntEl.st w w' b _ _ k hb h0, IntEl.st w w' b _ _ k hb h1, IntEl.st w w' b _ _ k hb h2, StrEl.st w w' b _ _ k hb h3⟩
def bIns (x : Ins_) : Nat := x.s.size
structure Cd where
  ins : List Ins_
  pats : List (List PN)
def CdEl : ElRd Cd := fun w b o x => (RowEl 4 InsEl) w b o x.ins ∧ (RowEl 1 PatEl) w b (o + 1) x.pats
theorem CdEl.st : Stable CdEl := fun w w' b o x k hb ⟨h0, h1⟩ => ⟨(RowEl.st 4 InsEl.st) w w' b _ _ k hb h0, (RowEl.st 1 PatEl.st) w w' b _ _ k hb h1⟩
def bCd (x : Cd) : Nat := bulkL bIns x.ins + bulkL bPat x.pats
structure Vl where
  kind : Int
  n : Int
  s : ByteArray
def VlEl : ElRd Vl := fun w b o x => IntEl w b o x.kind ∧ IntEl w b (o + 1) x.n ∧ StrEl w b (o + 2) x.s
theorem VlEl.st : Stable VlEl := fun w w' b o x k hb ⟨h0, h1, h2⟩ => ⟨IntEl.st w w' b _ _ k hb h0, IntEl.st w w' b _ _ k hb h1, StrEl.st w w' b _ _ k hb h2⟩
def bVl (x : Vl) : Nat := x.s.size
structure Ce where
  kind : Int
  n : Int
  s : ByteArray
  a : Vl
  b : Vl
def CeEl : ElRd Ce := fun w b o x => IntEl w b o x.kind ∧ IntEl w b (o + 1) x.n ∧ StrEl w b (o + 2) x.s ∧ VlEl w b (o + 3) x.a ∧ VlEl w b (o + 6) x.b
theorem CeEl.st : Stable CeEl := fun w w' b o x k hb ⟨h0, h1, h2, h3, h6⟩ => ⟨IntEl.st w w' b _ _ k hb h0, IntEl.st w w' b _ _ k hb h1, StrEl.st w w' b _ _ k hb h2, VlEl.st w w' b _ _ k hb h3, VlEl.st w w' b _ _ k hb h6⟩
def bCe (x : Ce) : Nat := x.s.size + bVl x.a + bVl x.b
structure Ak where
  arm : Int
  path : List Int
  kind : Int
  n : Int
  s : ByteArray
  has : Bool
  yes : Int
  no : Int
def AkEl : ElRd Ak := fun w b o x => IntEl w b o x.arm ∧ (RowEl 1 IntEl) w b (o + 1) x.path ∧ IntEl w b (o + 2) x.kind ∧ IntEl w b (o + 3) x.n ∧ StrEl w b (o + 4) x.s ∧ BoolEl w b (o + 5) x.has ∧ IntEl w b (o + 6) x.yes ∧ IntEl w b (o + 7) x.no
theorem AkEl.st : Stable AkEl := fun w w' b o x k hb ⟨h0, h1, h2, h3, h4, h5, h6, h7⟩ => ⟨IntEl.st w w' b _ _ k hb h0, (RowEl.st 1 IntEl.st) w w' b _ _ k hb h1, IntEl.st w w' b _ _ k hb h2, IntEl.st w w' b _ _ k hb h3, StrEl.st w w' b _ _ k hb h4, BoolEl.st w w' b _ _ k hb h5, IntEl.st w w' b _ _ k hb h6, IntEl.st w w' b _ _ k hb h7⟩
def bAk (x : Ak) : Nat := bulkL bInt x.path + x.s.size
def AsksEl : ElRd (List Ak) := RowEl 8 AkEl
theorem AsksEl.st : Stable AsksEl := RowEl.st 8 AkEl.st
def bAsks (x : List Ak) : Nat := bulkL bAk x
structure Po where
  cells : List Ce
  free : List Int
def PoEl : ElRd Po := fun w b o x => (RowEl 9 CeEl) w b o x.cells ∧ (RowEl 1 IntEl) w b (o + 1) x.free
theorem PoEl.st : Stable PoEl := fun w w' b o x k hb ⟨h0, h1⟩ => ⟨(RowEl.st 9 CeEl.st) w w' b _ _ k hb h0, (RowEl.st 1 IntEl.st) w w' b _ _ k hb h1⟩
def bPo (x : Po) : Nat := bulkL bCe x.cells + bulkL bInt x.free
structure Cs where
  name : ByteArray
  lines : List ByteArray
  inputs : List Int
  want : List ByteArray
def CsEl : ElRd Cs := fun w b o x => StrEl w b o x.name ∧ (RowEl 1 StrEl) w b (o + 1) x.lines ∧ (RowEl 1 IntEl) w b (o + 2) x.inputs ∧ (RowEl 1 StrEl) w b (o + 3) x.want
theorem CsEl.st : Stable CsEl := fun w w' b o x k hb ⟨h0, h1, h2, h3⟩ => ⟨StrEl.st w w' b _ _ k hb h0, (RowEl.st 1 StrEl.st) w w' b _ _ k hb h1, (RowEl.st 1 IntEl.st) w w' b _ _ k hb h2, (RowEl.st 1 StrEl.st) w w' b _ _ k hb h3⟩
def bCs (x : Cs) : Nat := x.name.size + bulkL bStr x.lines + bulkL bInt x.inputs + bulkL bStr x.want
structure Ta where
  types : List ByteArray
  defs : List ByteArray
def TaEl : ElRd Ta := fun w b o x => (RowEl 1 StrEl) w b o x.types ∧ (RowEl 1 StrEl) w b (o + 1) x.defs
theorem TaEl.st : Stable TaEl := fun w w' b o x k hb ⟨h0, h1⟩ => ⟨(RowEl.st 1 StrEl.st) w w' b _ _ k hb h0, (RowEl.st 1 StrEl.st) w w' b _ _ k hb h1⟩
def bTa (x : Ta) : Nat := bulkL bStr x.types + bulkL bStr x.defs
end Go.Proofs.Ytpgefkdojplamaa
