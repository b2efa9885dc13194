/- The document's data as marking leaves it, by program (tools/gendeep.py). -/
import Derived.Test.YtdhpmblhejcehaaOwnData
import Derived.Test.YtdhpmblhejcehaaMarkText
namespace Go.Proofs.Ytdhpmblhejcehaa
set_option linter.unusedVariables false
set_option maxRecDepth 100000
open Go.ChangeShapes Go.WideShapes Go.ChangeAt Go.RowKit
def cInt (_ : Int) : Nat := 1
def mkInt (_ : Int) (k : Nat) : Int := k
def cStr (_ : ByteArray) : Nat := 1
def mkStr (_ : ByteArray) (k : Nat) : ByteArray := markS k
theorem mkF_len : ∀ (f k : Nat) (out : List UInt8), (mkF f k out).length ≤ out.length + f := by
  intro f
  induction f with
  | zero => intro k out; simp [mkF]
  | succ f ih => intro k out; rw [mkF]; split; · omega
                 · have := ih (k / 10) (digC k :: out); simp at this; omega
theorem markS_size (k : Nat) (h : k ≤ 1000000000000) : (markS k).size ≤ maxLen := by
  have := mkF_len k k []
  unfold maxLen markS; rw [bs_size]; simp at this ⊢; omega
def MarkPost {α : Type} (n : Nat) (E : OwnRd α) (l' : List α) (v : Value) (F : List Nat) (m : Nat) (w : World) (e : Ending) (w' : World) : Prop := e = .returned (.int .i64 (m : Int)) ∧ RowOwn n E w' v l' F ∧ ButF F w w'
theorem cntL_bulk {α : Type} (c b : α → Nat) (h : ∀ x, c x ≤ 16 * (b x + 1)) (l : List α) : cntL c l ≤ 16 * bulkL b l := by
  induction l with
  | nil => simp [cntL]
  | cons x l ih => simp only [cntL, bulkL]; have := h x; omega
theorem cb_Int (x : Int) : cInt x ≤ 16 * (bInt x + 1) := by simp [cInt]; omega
theorem cb_Str (x : ByteArray) : cStr x ≤ 16 * (bStr x + 1) := by simp only [cStr]; omega
def cTok (x : Tok_) : Nat := 4
def mkTok (x : Tok_) (k : Nat) : Tok_ := ⟨((k : Nat) : Int), ((k + 1 : Nat) : Int), markS (k + 2), ((k + 3 : Nat) : Int)⟩
theorem cb_Tok (x : Tok_) : cTok x ≤ 16 * (bTok x + 1) := by
  simp only [cTok, bTok]; omega
def cTyI (x : TyI) : Nat := 3
def mkTyI (x : TyI) (k : Nat) : TyI := ⟨((k : Nat) : Int), markS (k + 1), ((k + 2 : Nat) : Int)⟩
theorem cb_TyI (x : TyI) : cTyI x ≤ 16 * (bTyI x + 1) := by
  simp only [cTyI, bTyI]; omega
def cTy (x : List TyI) : Nat := cntL cTyI x
def mkTy (x : List TyI) (k : Nat) : List TyI := mkL mkTyI cTyI x k
theorem cb0_Ty (x : List TyI) : cTy x ≤ 16 * bTy x := cntL_bulk _ _ cb_TyI x
theorem cb_Ty (x : List TyI) : cTy x ≤ 16 * (bTy x + 1) := by have := cb0_Ty x; omega
def cPN (x : PN) : Nat := 3 + cntL cInt x.kids
def mkPN (x : PN) (k : Nat) : PN := ⟨((k : Nat) : Int), ((k + 1 : Nat) : Int), markS (k + 2), mkL mkInt cInt x.kids (k + 3)⟩
theorem cb_PN (x : PN) : cPN x ≤ 16 * (bPN x + 1) := by
  have h3 := cntL_bulk _ _ cb_Int x.kids
  simp only [cPN, bPN]; omega
def cPat (x : List PN) : Nat := cntL cPN x
def mkPat (x : List PN) (k : Nat) : List PN := mkL mkPN cPN x k
theorem cb0_Pat (x : List PN) : cPat x ≤ 16 * bPat x := cntL_bulk _ _ cb_PN x
theorem cb_Pat (x : List PN) : cPat x ≤ 16 * (bPat x + 1) := by have := cb0_Pat x; omega
def cCn (x : Cn) : Nat := 2 + cTy x.arg
def mkCn (x : Cn) (k : Nat) : Cn := ⟨markS (k), decide ((k + 1) % 3 = 0), mkTy x.arg (k + 2)⟩
theorem cb_Cn (x : Cn) : cCn x ≤ 16 * (bCn x + 1) := by
  have h2 := cb0_Ty x.arg
  simp only [cCn, bCn]; omega
def cTp (x : Tp) : Nat := 2 + cntL cCn x.cons
def mkTp (x : Tp) (k : Nat) : Tp := ⟨markS (k), ((k + 1 : Nat) : Int), mkL mkCn cCn x.cons (k + 2)⟩
theorem cb_Tp (x : Tp) : cTp x ≤ 16 * (bTp x + 1) := by
  have h2 := cntL_bulk _ _ cb_Cn x.cons
  simp only [cTp, bTp]; omega
def cNd (x : Nd) : Nat := 4 + cntL cInt x.kids + cntL cPat x.pats
def mkNd (x : Nd) (k : Nat) : Nd := ⟨((k : Nat) : Int), ((k + 1 : Nat) : Int), ((k + 2 : Nat) : Int), markS (k + 3), mkL mkInt cInt x.kids (k + 4), mkL mkPat cPat x.pats (k + 4 + cntL cInt x.kids)⟩
theorem cb_Nd (x : Nd) : cNd x ≤ 16 * (bNd x + 1) := by
  have h4 := cntL_bulk _ _ cb_Int x.kids
  have h5 := cntL_bulk _ _ cb_Pat x.pats
  simp only [cNd, bNd]; omega
def cPg (x : Pg) : Nat := 0 + cntL cTp x.types + cntL cNd x.nodes
def mkPg (x : Pg) (k : Nat) : Pg := ⟨mkL mkTp cTp x.types (k), mkL mkNd cNd x.nodes (k + 0 + cntL cTp x.types)⟩
theorem cb_Pg (x : Pg) : cPg x ≤ 16 * (bPg x + 1) := by
  have h0 := cntL_bulk _ _ cb_Tp x.types
  have h1 := cntL_bulk _ _ cb_Nd x.nodes
  simp only [cPg, bPg]; omega
def cSb (x : Sb) : Nat := 1 + cTy x.ty
def mkSb (x : Sb) (k : Nat) : Sb := ⟨((k : Nat) : Int), mkTy x.ty (k + 1)⟩
theorem cb_Sb (x : Sb) : cSb x ≤ 16 * (bSb x + 1) := by
  have h1 := cb0_Ty x.ty
  simp only [cSb, bSb]; omega
def cDN (x : DN) : Nat := 3 + cntL cInt x.kids
def mkDN (x : DN) (k : Nat) : DN := ⟨((k : Nat) : Int), ((k + 1 : Nat) : Int), markS (k + 2), mkL mkInt cInt x.kids (k + 3)⟩
theorem cb_DN (x : DN) : cDN x ≤ 16 * (bDN x + 1) := by
  have h3 := cntL_bulk _ _ cb_Int x.kids
  simp only [cDN, bDN]; omega
def cData (x : List DN) : Nat := cntL cDN x
def mkData (x : List DN) (k : Nat) : List DN := mkL mkDN cDN x k
theorem cb0_Data (x : List DN) : cData x ≤ 16 * bData x := cntL_bulk _ _ cb_DN x
theorem cb_Data (x : List DN) : cData x ≤ 16 * (bData x + 1) := by have := cb0_Data x; omega
def cOc (x : Oc) : Nat := 3 + cntL cStr x.trace
def mkOc (x : Oc) (k : Nat) : Oc := ⟨((k : Nat) : Int), ((k + 1 : Nat) : Int), mkL mkStr cStr x.trace (k + 2), ((k + 2 + cntL cStr x.trace : Nat) : Int)⟩
theorem cb_Oc (x : Oc) : cOc x ≤ 16 * (bOc x + 1) := by
  have h2 := cntL_bulk _ _ cb_Str x.trace
  simp only [cOc, bOc]; omega
def cIns (x : Ins_) : Nat := 4
def mkIns (x : Ins_) (k : Nat) : Ins_ := ⟨((k : Nat) : Int), ((k + 1 : Nat) : Int), ((k + 2 : Nat) : Int), markS (k + 3)⟩
theorem cb_Ins (x : Ins_) : cIns x ≤ 16 * (bIns x + 1) := by
  simp only [cIns, bIns]; omega
def cCd (x : Cd) : Nat := 0 + cntL cIns x.ins + cntL cPat x.pats
def mkCd (x : Cd) (k : Nat) : Cd := ⟨mkL mkIns cIns x.ins (k), mkL mkPat cPat x.pats (k + 0 + cntL cIns x.ins)⟩
theorem cb_Cd (x : Cd) : cCd x ≤ 16 * (bCd x + 1) := by
  have h0 := cntL_bulk _ _ cb_Ins x.ins
  have h1 := cntL_bulk _ _ cb_Pat x.pats
  simp only [cCd, bCd]; omega
def cVl (x : Vl) : Nat := 3
def mkVl (x : Vl) (k : Nat) : Vl := ⟨((k : Nat) : Int), ((k + 1 : Nat) : Int), markS (k + 2)⟩
theorem cb_Vl (x : Vl) : cVl x ≤ 16 * (bVl x + 1) := by
  simp only [cVl, bVl]; omega
def cCe (x : Ce) : Nat := 3 + cVl x.a + cVl x.b
def mkCe (x : Ce) (k : Nat) : Ce := ⟨((k : Nat) : Int), ((k + 1 : Nat) : Int), markS (k + 2), mkVl x.a (k + 3), mkVl x.b (k + 3 + cVl x.a)⟩
theorem cb_Ce (x : Ce) : cCe x ≤ 16 * (bCe x + 1) := by
  simp only [cCe, cVl, cVl, bCe, bVl, bVl]; omega
def cAk (x : Ak) : Nat := 7 + cntL cInt x.path
def mkAk (x : Ak) (k : Nat) : Ak := ⟨((k : Nat) : Int), mkL mkInt cInt x.path (k + 1), ((k + 1 + cntL cInt x.path : Nat) : Int), ((k + 2 + cntL cInt x.path : Nat) : Int), markS (k + 3 + cntL cInt x.path), decide ((k + 4 + cntL cInt x.path) % 3 = 0), ((k + 5 + cntL cInt x.path : Nat) : Int), ((k + 6 + cntL cInt x.path : Nat) : Int)⟩
theorem cb_Ak (x : Ak) : cAk x ≤ 16 * (bAk x + 1) := by
  have h1 := cntL_bulk _ _ cb_Int x.path
  simp only [cAk, bAk]; omega
def cAsks (x : List Ak) : Nat := cntL cAk x
def mkAsks (x : List Ak) (k : Nat) : List Ak := mkL mkAk cAk x k
theorem cb0_Asks (x : List Ak) : cAsks x ≤ 16 * bAsks x := cntL_bulk _ _ cb_Ak x
theorem cb_Asks (x : List Ak) : cAsks x ≤ 16 * (bAsks x + 1) := by have := cb0_Asks x; omega
def cPo (x : Po) : Nat := 0 + cntL cCe x.cells + cntL cInt x.free
def mkPo (x : Po) (k : Nat) : Po := ⟨mkL mkCe cCe x.cells (k), mkL mkInt cInt x.free (k + 0 + cntL cCe x.cells)⟩
theorem cb_Po (x : Po) : cPo x ≤ 16 * (bPo x + 1) := by
  have h0 := cntL_bulk _ _ cb_Ce x.cells
  have h1 := cntL_bulk _ _ cb_Int x.free
  simp only [cPo, bPo]; omega
def cCs (x : Cs) : Nat := 1 + cntL cStr x.lines + cntL cInt x.inputs + cntL cStr x.want
def mkCs (x : Cs) (k : Nat) : Cs := ⟨markS (k), mkL mkStr cStr x.lines (k + 1), mkL mkInt cInt x.inputs (k + 1 + cntL cStr x.lines), mkL mkStr cStr x.want (k + 1 + cntL cStr x.lines + cntL cInt x.inputs)⟩
theorem cb_Cs (x : Cs) : cCs x ≤ 16 * (bCs x + 1) := by
  have h1 := cntL_bulk _ _ cb_Str x.lines
  have h2 := cntL_bulk _ _ cb_Int x.inputs
  have h3 := cntL_bulk _ _ cb_Str x.want
  simp only [cCs, bCs]; omega
def cTa (x : Ta) : Nat := 0 + cntL cStr x.types + cntL cStr x.defs
def mkTa (x : Ta) (k : Nat) : Ta := ⟨mkL mkStr cStr x.types (k), mkL mkStr cStr x.defs (k + 0 + cntL cStr x.types)⟩
theorem cb_Ta (x : Ta) : cTa x ≤ 16 * (bTa x + 1) := by
  have h0 := cntL_bulk _ _ cb_Str x.types
  have h1 := cntL_bulk _ _ cb_Str x.defs
  simp only [cTa, bTa]; omega
end Go.Proofs.Ytdhpmblhejcehaa
