import Derived.Test.YtcbilgmfdgpomaaGreatDoorQ16
set_option linter.all false
noncomputable section
open Array renaming size → iS
set_option maxHeartbeats 4000000
set_option maxRecDepth 8000
open Option renaming some → ni,none → su
open Bool renaming true → tu,false → o9
open Go renaming Value → w8,World → qg,TypeId → mi,Addr → rj,bounds_i64 → wch,Value → R,World → Z
open List renaming replicate → ene,take → xua,length → iR,length → E
open Go.IntKind renaming signed → dut,wrap → vgf,bits → yum,i64 → yi
open Go.World renaming cell?_of_block → o2
open Go.Value.slice renaming injEq → qvf
open Go.Frame renaming enter → ow
open Classical renaming choose → ael
open Go.Value renaming int → pq,string → x7,pointer → w9,slice → um,bool → vp
open Go.Obj renaming cells → jf
open Go.Proofs.YtcbilgmfdgpomaaGreatDoor renaming D5 → Y,Jh → P,AS → M
open Go.Proofs.Tryz
variable {F:iA}{H:Type}{I L T b g i j k m off os y z:Nat}{K q:hQ}{O W e u w:Z}{X tl:hU}{c:hY}{f:iD}{o r:gY}{ob:iF}{p:Prop}{s v x:R}{t:mi}
def W9t(h:p:=by
 simp only[dG,and_true,Value.slice.injEq]at z;obtain⟨rfl,rfl,rfl⟩:=z;exact⟨Aa,Aa,[],iP,λi x V=>by simp at V⟩):p:=h
def Jkc(h:p:=by
 have w:=O 0 Aa;rw[aG Aa]at w;obtain⟨al,ae,_⟩:=bL.1 w;have T:=(World.cells?_some ae);have q:=T.2.2 0 Aa;rw[Nat.zero_mul]at q;simp only[Addr.add,bP]at q;rw[aG (by rw[T.2.1];omega)]at q;exact World.cell?_spot q):p:=h
set_option maxRecDepth 8000
def Sj8(h:p:=by
 unfold Cell.ok at h;rw[r]at h;cases v<;>simp at h<;>rfl):p:=h
def Bhp(h:p:=by
 exact⟨cs,C,λi v q=>let⟨u,r,E⟩:=T i v q;Z7 ((aK Tryz.prog.underlying (dT r)).trans Tryz.underlying9) E⟩):p:=h
def Zhw(h:p:=by
 exact⟨cs,C,λi v q=>let⟨u,r,E⟩:=T i v q;Z6 ((aK Tryz.prog.underlying (dT r)).trans Tryz.underlying5) E⟩):p:=h
def Vc1(h:p:=by
 unfold Instr.sliceAt Instr.slice Instr.sliceBounds;simp[go_sem,Instr.sliceBound];intro _;omega):p:=h
def Qt1(h:p:=by
 refine Ar ?_;walk_nrm;refine Au ?_;simp only[A0,As];refine A2 (t:=false) Ac ?_;simp only[bP,bQ,aR];refine J4 ?_;simp only[A0,As,bP,bQ];refine Ay ?_
 iterate 3(refine Ar ?_;walk_nrm)
 refine Ls Y iP Ac iP iP (B7 Ab) ?_;intro w2 aj cs fz J b2 R U W;walk_nrm;have N:=T.kf J;refine A3 (N.feedT (Post:=Post) ae V1 ai P1 (x:=Y.data.toList) (by show m1+(1004+Y.size) / 4≤1000000;omega) (T.t.bin J b2 R U W)) iP Ac iP Aav ?_;rintro ak w3⟨τ3,k3,q3,a8,P,R3⟩;walk_nrm;refine Au ?_;simp only[A0,As];exact⟨trivial,Ji iP ⟨⟨⟨S.1,S.2,iP,S.4,S.5,iP,S.7⟩,Z,a1,a6⟩,τ3,k3,q3,a8,by rw[List.set_set]at P;exact P,by rw[ad];exact R1.comp ab R3⟩⟩):p:=h
namespace Go.Proofs.YtcbilgmfdgpomaaGreatDoor
variable {A B:SA}{Q:Exit->Act->Z->Prop}{a:M}{d h:ST}{l:List M}
open Go.ChangeShapes Go.WideShapes Go.ChangeAt Go.RowKit Go.Pair
def VS(s:hU):E s.data.toList=s.size:=Ac
def KY{H}(l):Rows.uptoBulk (DataW.lit (H:=H) (.string l))=l.length+1:=by simp [Rows.uptoBulk]
def Abo(d:DataW H):1<=Rows.uptoBulk d:=by
 cases d with
 |lit l=>cases l<;>simp[Rows.uptoBulk]
 |_=>simp[Rows.uptoBulk]
def WR{l:List (DataW H)}(h:i<E l):Rows.uptoBulk l[i]<=Rows.uptoBulkAll l:=by
 induction l generalizing i with
 |nil=>simp at h
 |cons x r O=>
  simp only[Rows.uptoBulkAll]
  grind
def UH:prog.cellsOf 34=6:=Ab
def Uj{u}(h:w.cell? (iK b k)=ni u):∃c t a,w.1[b]?=ni (jf c t a)/\c[k]?=ni u:=by
 unfold World.cell? at h
 grind
def Ib{u}{c:iB}{a}(D:w.1[b]?=ni (jf c t a))(h:w.cell? (iK b k)=ni u):c[k]?=ni u:=by
 have ⟨B,S,H,C,J⟩:=Uj h
 grind
structure AkW(W:qg)(b off)(x:Ak):Prop where
 c0:W.cell? (iK b off)=ni (iL x.k)
 c1:W.cell? ⟨b,off+1,su⟩=ni (iL x.a)
 c2:W.cell? ⟨b,off+2,su⟩=ni (iL x.b)
 c3:W.cell? ⟨b,off+3,su⟩=ni (x7 x.s)
 c4:W.cell? ⟨b,off+4,su⟩=ni (iL x.v)
 c5:W.cell? ⟨b,off+5,su⟩=ni (vp x.w)
def Aa1(W:Z)(oA:iE)(xs:List Ak):Prop:=∀i(x:Ak),xs[i]?=ni x->∃b off,oA=ni (iK b off)/\AkW W b (off+i * 6) x/\x.Ok
def Abp(l:List (DataW H))(h:∀i(V:i<E l),2<=Rows.uptoBulk l[i]):2 * E l<=Rows.uptoBulkAll l:=by
 induction l with
 |nil=>simp[Rows.uptoBulkAll]
 |cons x r O=>
  have F:=h 0 Ad;have C:=O λi V=>h (i+1) (by simpa using V);simp only[Rows.uptoBulkAll,aU,bF]at F⊢;omega
def Agn{a}{P:mi×w8->a}{e:iE}{H f y}(F:DataW.trod P prog W 0 (λ_=>tu) tu I 22 [um e H f]=ni y)(a1:Rows.uptoBulk y.1<=1048576):H<=f/\2 * H<=Rows.uptoBulk y.1/\∃X,iR X=H/\Aa1 W e X:=by
 rcases DataW.trod_slice Tryz.underlying22 F with⟨z,_⟩|⟨j,len,aa,d,ad,n,af,z,G,_,K,hm,q,O,_,_⟩
 ·exact W9t
 ·simp only[dG,and_true,qvf]at z;obtain⟨rfl,rfl,rfl⟩:=z;rw[G]at a1⊢;simp only[Rows.uptoBulk]at a1⊢;have b:∀i,i<H->(∀V:i<(d.map (·.1)).length,2<=Rows.uptoBulk ((d.map (·.1))[i]))/\∃x c off,j=(iK c off)/\AkW W c (off+i * 6) x/\x.Ok:=λi V=>?b
  ·refine⟨K,?_,List.ofFn (n:=H) λi=>ael (b i.1 i.2).2,Ad,λi x Z=>?_⟩
   ·have:=Abp (d.map (·.1)) λi V=>(b i (by simpa[q] using V)).1 V;rw[bU,q]at this;omega
   ·have V:i<H:=by have:=(aD.1 Z).1;simpa using this
    rw[List.getElem?_ofFn,dif_pos V]at Z;obtain⟨c,off,C,J,T⟩:=Classical.choose_spec (b i V).2;cases Z;exact⟨c,off,by rw[C],J,T⟩
  have ar:True:=trivial;rw[UH]at O;have g:i<iR d:=Aa;have au:Rows.uptoBulk ((d.map (·.1))[i]' Aax)<=Rows.uptoBulkAll (d.map (·.1)):=WR Aax;have p:=O i V;rw[aG g]at p;obtain⟨cs,z,L⟩:=bL.1 p;obtain⟨X,m,av,an,ah,ai,h⟩:=DataW.trod_struct underlying34 L;rw[UH]at ah;obtain⟨c0,Q,R,U,A,l,rfl⟩:∃c0 Q R U A l,cs = [c0,Q,R,U,A,l]:=by
   match cs,ah with
   |[c0,Q,R,U,A,l],_=>exact⟨_,_,_,_,_,_,iP⟩
  obtain⟨y0,y1,y2,S,y4,y5,rfl⟩:∃c0 Q R U A l,X = [c0,Q,R,U,A,l]:=by
   match X,ai with
   |[c0,Q,R,U,A,l],_=>exact⟨_,_,_,_,_,_,iP⟩
  have w:DataW.trod P prog W 0 (λ_=>tu) tu m 3 (xua (prog.cellsOf 3) [c0,Q,R,U,A,l])=ni y0:=h 0 _ iP;have f1:DataW.trod P prog W 0 (λ_=>tu) tu m 3 (xua (prog.cellsOf 3) [Q,R,U,A,l])=ni y1:=h 1 _ iP;have f2:DataW.trod P prog W 0 (λ_=>tu) tu m 3 (xua (prog.cellsOf 3) [R,U,A,l])=ni y2:=h 2 _ iP;have f3:DataW.trod P prog W 0 (λ_=>tu) tu m 9 (xua (prog.cellsOf 9) [U,A,l])=ni S:=h 3 _ iP;have f4:DataW.trod P prog W 0 (λ_=>tu) tu m 3 (xua (prog.cellsOf 3) [A,l])=ni y4:=h 4 _ iP;have f5:DataW.trod P prog W 0 (λ_=>tu) tu m 4 (xua (prog.cellsOf 4) [l])=ni y5:=h 5 _ iP;rw[Abu]at w f1 f2 f4;rw[Abx]at f3;rw[Abv]at f5;obtain⟨z0,a6,_,aj⟩:=DataW.trod_int underlying3 w;obtain⟨z1,a7,_,ao⟩:=DataW.trod_int underlying3 f1;obtain⟨z2,a8,_,ap⟩:=DataW.trod_int underlying3 f2;obtain⟨s,e3,D,_⟩:=DataW.trod_string underlying9 f3;obtain⟨z4,e4,_,aq⟩:=DataW.trod_int underlying3 f4;obtain⟨bt,e5,_⟩:=DataW.trod_bool underlying4 f5;simp only[List.take_succ_cons,List.take_zero,dG,and_true]at a6 a7 a8 e3 e4 e5;subst a6 a7 a8 e3 e4 e5;have aw:Rows.uptoBulk S.1+1<=Rows.uptoBulk ((d.map (·.1))[i]' Aax):=by
   simp only[List.getElem_map,an,bA,cO,Rows.uptoBulk,Rows.uptoBulkAll];omega
  have ax:Rows.uptoBulk S.1=s.size+1:=by rw[D,KY,VS]
  obtain⟨c,off,t⟩:=j;have M:∀k Y,([iL z0,iL z1,iL z2,x7 s,iL z4,vp bt]:iC)[k]?=ni Y->W.cell? ((⟨c,off,t⟩:rj).add (i * 6+k))=ni Y:=λk Y E=>by
   have C:=(World.cells?_some z).2.2 k SC;rw[E]at C;rw[←C,Addr.add_add]
  have ab:t=su:=by
   by_cases ak:i=0
   ·subst ak;simpa[Addr.add] using(World.cell?_spot (M 0 _ iP))
   ·exact Jkc
  subst ab;have B:=M 0 _ iP;refine Dz9 λo r N u v=>?_;rw[Addr.add_lit]at B o r N u v;rw[←eM]at B o r N u v;refine⟨λay=>?_,⟨z0,z1,z2,s,z4,bt⟩,c,off,iP,⟨B,o,r,N,u,v⟩,⟨wch aj,wch ao,wch ap,wch aq,by show s.size<=_;omega⟩⟩;omega
open Go
def Me:R->Bool
 |vp _|pq _ _|x7 _=>tu
 |_=>o9
def Ut(h:Me x=tu)(n):A1 n x=x:=by cases x<;>simp[Me]at h⊢
def Hv:R->Nat
 |pq _ _=>0
 |x7 _=>1
 |vp _=>2
 |um _ _ _=>3
 |_=>4
def Mg(h:W.ShapedOpen prog){g m t:Nat}{ts}(G:g<prog.globals.size)(F:(((begin prog (λ_ _=>0) default).world.1[g]?).bind Obj.row?).map (λx=>(iS x.1,x.2))=ni (m,t))(D:prog.buildable t=tu)(M:prog.cellTypes prog.depth t=ni ts):∃cs,W.1[g]?=ni (jf cs t (0,0))/\cs.size=m/\∀(i:Nat) v,cs[i]?=ni v->∃u∈ts,Cell.ok prog W .any 0 u v:=by
 have ⟨⟨zero,S⟩,N,e⟩:=bB.1 F;cases e;have ⟨cs,f,s,Y⟩:=h.1 g zero S G N;have ⟨d,Z,_,K⟩:=Y D
 grind
def Z7{u}(r:prog.underlying u=ni .string)(h:Cell.ok prog W .any 0 u v):Hv v=1:=by
 exact Sj8
def Z6{u k}(r:prog.underlying u=ni (.int k))(h:Cell.ok prog W .any 0 u v):Hv v=0:=by
 exact Sj8
def Ahk{u e}(r:prog.underlying u=ni (.slice e))(h:Cell.ok prog W .any 0 u v):Hv v=3:=by
 exact Sj8
structure KO(W:qg)(g k:Nat)(cs:iB)(t):Prop where
 row:W.1[g]?=ni (jf cs t (0,0))
 kind:∀(i:Nat) v,cs[i]?=ni v->Hv v=k
def Acx(h:W.ShapedOpen prog):∃cs,KO W 0 1 cs 181:=by
 obtain⟨cs,C,J,T⟩:=Mg h (g:=0) (m:=24) (t:=181) (ts:=ene 24 9) (of_decide_eq_true Ab) Ab Ab Ab;exact Bhp
def Ac0(h:W.ShapedOpen prog):∃cs,KO W 3 1 cs 181:=by
 obtain⟨cs,C,J,T⟩:=Mg h (g:=3) (m:=24) (t:=181) (ts:=ene 24 9) (of_decide_eq_true Ab) Ab Ab Ab;exact Bhp
def Acz(h:W.ShapedOpen prog):∃cs,KO W 2 1 cs 180:=by
 obtain⟨cs,C,J,T⟩:=Mg h (g:=2) (m:=3) (t:=180) (ts:=ene 3 9) (of_decide_eq_true Ab) Ab Ab Ab;exact Bhp
def Acy(h:W.ShapedOpen prog):∃cs,KO W 1 0 cs 3:=by
 obtain⟨cs,C,J,T⟩:=Mg h (g:=1) (m:=1) (t:=3) (ts:=ene 1 3) (of_decide_eq_true Ab) Ab Ab Ab;exact⟨cs,C,λi v q=>let⟨u,r,E⟩:=T i v q;Z6 ((aK prog.underlying (dT r)).trans underlying3) E⟩
def Ac2(h:W.ShapedOpen prog):∃cs,KO W 5 0 cs 294:=by
 obtain⟨cs,C,J,T⟩:=Mg h (g:=5) (m:=256) (t:=294) (ts:=ene 256 5) (of_decide_eq_true Ab) Ab Ab Ab;exact Zhw
def Ac3(h:W.ShapedOpen prog):∃cs,KO W 6 0 cs 297:=by
 obtain⟨cs,C,J,T⟩:=Mg h (g:=6) (m:=32) (t:=297) (ts:=ene 32 5) (of_decide_eq_true Ab) Ab Ab Ab;exact Zhw
def Ac1(h:W.ShapedOpen prog):∃cs,KO W 4 3 cs 286/\cs.size=4:=by
 obtain⟨cs,C,J,T⟩:=Mg h (g:=4) (m:=4) (t:=286) (ts:=ene 4 285) (of_decide_eq_true Ab) Ab Ab Ab;exact⟨cs,⟨C,λi v q=>let⟨u,r,E⟩:=T i v q;Ahk ((aK prog.underlying (dT r)).trans underlying285) E⟩,J⟩
def MH:Gd.toList.all Me=tu:=Ab
def Ahn:Gd.toList.all (λx=>Hv x != 1)=tu:=Ab
def Adf:(List.range 49).all (λo=>match Gd[o]?,Gd[o+1]? with|some (vp _),ni (pq yi _)=>o9|_,_=>tu)=tu:=Ab
def Hu{cs}(h:KO W g k cs t){b o x}(Z:W.cell? (iK b o)=ni x)(E:Hv x≠k):b≠g:=λe=>by
 subst e;have:=Ib h.row Z;exact E (h.kind o x this)
def Aj5(h:W.ShapedOpen prog)(V:Table W){x}(Z:AkW W b off x):8<=b:=by
 have ⟨c0,I⟩:=Acx h;have ⟨Q,X⟩:=Acy h;have ⟨R,o⟩:=Acz h;have ⟨U,d⟩:=Ac0 h;have ⟨u,K,_⟩:=Ac1 h;have ⟨l,O⟩:=Ac2 h;have ⟨q,f⟩:=Ac3 h;have ⟨g,c,M⟩:=V;have F:=Hu I Z.c0 KX;have S:=Hu X Z.c3 KX;have L:=Hu o Z.c0 KX;have Y:=Hu d Z.c0 KX;have s:=Hu K Z.c0 KX;have t:=Hu O Z.c3 KX;have a:=Hu f Z.c3 KX;have E:b≠7:=λe=>by
  subst e;have C:=Ib M Z.c3;have J:=cR.1 Ahn _ (aV Aa4);simp[Hv]at J
 omega
def JQ(h:W.ShapedOpen prog)(V:Table W){o}{x:Tl}(F:W.cell? (iK b o)=ni (iL x.1))(C:W.cell? ⟨b,o+1,su⟩=ni (vp x.2.1))(J:W.cell? ⟨b,o+2,su⟩=ni (iL x.2.2)):8<=b:=by
 obtain⟨c0,I⟩:=Acx h;obtain⟨Q,X⟩:=Acy h;obtain⟨R,a⟩:=Acz h;obtain⟨U,d⟩:=Ac0 h;obtain⟨u,K,_⟩:=Ac1 h;obtain⟨l,O⟩:=Ac2 h;obtain⟨q,f⟩:=Ac3 h;obtain⟨n,j,M⟩:=V;have g:=Hu I F KX;have S:=Hu X C KX;have L:=Hu a F KX;have Y:=Hu d F KX;have s:=Hu K F KX;have t:=Hu O C KX;have i:=Hu f C KX;have E:b≠7:=λe=>by
  subst e;have c:=Ib M C;have k:=Ib M J;have N:=(aH.1 c).1;have m:=cR.1 Adf (o+1) (List.mem_range.2 N)
  grind
 omega
def EG(h:W.ShapedOpen prog)(V:Table W)(G:g<8):∃cs t b,W.1[g]?=ni (jf cs t b)/\(g≠4->∀(i:Nat) v,cs[i]?=ni v->Me v=tu)/\(g=4->cs.size=4/\∀(i:Nat) v,cs[i]?=ni v->Hv v=3):=by
 have E:∀{v} {k},Hv v=k->k<3->Me v=tu:=λ{v k} C J=>by cases v<;>simp[Hv,Me]at C⊢<;>omega
 obtain⟨c0,I⟩:=Acx h;obtain⟨Q,X⟩:=Acy h;obtain⟨R,a⟩:=Acz h;obtain⟨U,d⟩:=Ac0 h;obtain⟨u,K,x⟩:=Ac1 h;obtain⟨l,O⟩:=Ac2 h;obtain⟨c,f⟩:=Ac3 h;obtain⟨m,j,M⟩:=V;have:g=0∨g=1∨g=2∨g=3∨g=4∨g=5∨g=6∨g=7:=Aa;rcases this with rfl|rfl|rfl|rfl|rfl|rfl|rfl|rfl
 ·exact⟨_,_,_,I.row,λ_ i v q=>E (I.kind i v q) Aa,λe=>Aa⟩
 ·exact⟨_,_,_,X.row,λ_ i v q=>E (X.kind i v q) Aa,λe=>Aa⟩
 ·exact⟨_,_,_,a.row,λ_ i v q=>E (a.kind i v q) Aa,λe=>Aa⟩
 ·exact⟨_,_,_,d.row,λ_ i v q=>E (d.kind i v q) Aa,λe=>Aa⟩
 ·exact⟨_,_,_,K.row,λe=>(e iP).elim,λ_=>⟨x,K.kind⟩⟩
 ·exact⟨_,_,_,O.row,λ_ i v q=>E (O.kind i v q) Aa,λe=>Aa⟩
 ·exact⟨_,_,_,f.row,λ_ i v q=>E (f.kind i v q) Aa,λe=>Aa⟩
 ·exact⟨_,_,_,M,λ_ i v q=>cR.1 MH _ (aV Aa4),λe=>Aa⟩
open Go.Conc Go.Maps
section
variable {h o:Nat->R×R} {z:gZ} {N:Goroutine->Z->Prop} {v:Z} {f a:iE} {se b:List SI} {e:SI} {U:iB} {q:mi}
def Aku{n}(g:H0 h z F y c u A d f m se r)(V:se[i]?=ni e)(E:keyOf prog 3 (iL e.k)=ni (Lit.int yi e.k))(J:d.down=o9)(L:e.en=tu):Bg prog tu Y N 27 #[iI A.1,iL e.k,Jd ob T n I] u λx O=>Ax u O iO:=by
 apply Bh func27 Ac iP (λ_ _=>results_tmp Ac _ _ _) (λ_ _=>events_results_tmp Ac _ _);simp only[ntmps27,na,Nat.reduceAdd,Nat.reduceSub];refine Rxn ?_;refine Ths ?_;refine Rxn ?_;refine Wad ?_;refine A3 (Aja g.C.W g.F V E) iP Ac iP Af ?_;rintro x aj⟨j,M,rfl⟩;walk_nrm;refine Ths ?_;have w:=g.kf j;refine M8j ?_;refine Qit ?_;refine Zln ?_;refine Nqc ?_;refine M8j ?_;refine Mwc ?_;refine A3 (Rp M A.1 _ o9 (by have:=w.F.1.V.1;rwa[J]at this) iP w.F.1.V.nv) iP Ac iP Af ?_;rintro x Z⟨H,P,rfl⟩;walk_nrm;refine Zln ?_;refine Nqc ?_;have k:=w.kf H;have ⟨Q,_,_⟩:=k.F.ses.one i e V;refine R5v ?_;refine Trb ?_;have S:Z.cell? (iK e.b 4)=ni (vp tu):=by rw[←L];exact Q.cell.2.2.1
 refine Bq S (PG _) ?_;walk_nrm;refine Ths ?_;refine Ofi ?_;refine M8j ?_;refine Mwc ?_;refine A3 (Rp P A.1 _ o9 (by have:=k.F.1.V.1;rwa[J]at this) iP k.F.1.V.nv) iP Ac iP Af ?_;rintro x b⟨a,l,rfl⟩;walk_nrm;refine Zln ?_;refine Nqc ?_;refine Rxn ?_;refine Ths ?_;exact Dm ⟨.inr iP,iP,(j.trans H).trans a⟩
def Akt{n}(H:H0 h z F y c u A d f m se r)(s:u.1[g]?=ni (jf U q))(al:U[0]?=ni (iI A.1))(V:se[i]?=ni e)(E:keyOf prog 3 (iL e.k)=ni (Lit.int yi e.k))(J:d.down=o9)(p:e.en=tu):Bg prog tu Y N 10 #[iI g,iL e.k,Jd ob T n I] u λW O=>Ax u O iO:=by
 refine Vjk ?_;refine Rxn ?_;refine Ths ?_;refine Rxn ?_;refine V2g ?_;apply A3 (Ac7 s al) iP Ac iP Af;rintro W ae⟨rfl,ad⟩;walk_nrm;refine Wad ?_;refine A3 (Aku (H.kf ad) V E J p) iP Ac iP Ap λW n a=>?_;walk_nrm;refine Ths ?_;exact Dm ⟨.inr iP,iP,ad.trans a⟩
end
section
variable {v:hY} {Post:PA y F} {n:Nat} {W:hQ} {B:gY} {t:Bool}
def Sv.feedR(U:Im Cp F)(h:Sv F y c u g A d l r v)(V:l[i]?=ni a)(f:r[i]?=ni q)(P:Pv n d l)(j:E6 q W B K t)(z:n+iR B<=1000000)(E:PC y c u v A.D ob T I W):Bg prog tu D5 (Jh Post) 10 #[iI g,iL a.k,Jd ob T (iR W) I] u λo O=>∃G k p s,Sv F y c O g A G k (r.set i p) s/\Fu u O v s/\Hz i W q d l p G k:=by
 have J:=h;obtain⟨cu,fa,L,se,h,rfl,rfl⟩:=h;obtain⟨N,H,rfl⟩:∃N,se[i]?=ni N/\N.abs=a:=by
  grind
 have w:=aV V;obtain⟨q0,x,Q,_⟩:=h.H.Q.one i N H;rw[f]at x;obtain rfl:=aA x;cases e:N.en with
 |true=>
  refine Bp (Akt h.H h.os iP H (P.kw _ w).1 P.inv.dn e) λo O m=>?_;refine⟨d,_,q,_,by rw[BM f];exact J.kf m,?_,N.abs,V,?_⟩
  ·exact⟨m.mono λ_ h=>h.elim,λ_ h=>.inl h⟩
  ·rw[aJ (show N.abs.en=tu from e)];exact⟨iP,iP,iP⟩
 |false=>
  refine Bp (Aci (Post:=Post) U h.H h.os iP H (P.kw _ w).1 P.inv.dn e f E j ?_ ?_) ?_
  ·intro aa R ab G k C M;have b:=(Pv.chain M P Ai).1;rw[C]at z;simp at z;refine⟨j.len Q R (by rw[C];simp),b.aok Aa,λX Y _ _=>.inr ⟨b.ver X (aV Y),b.inv.ok Aa,λad hr=>AZ h.H.C.g8 b.2 hr⟩⟩
  ·intro L m M;have b:=(Pv.chain M P z).1;exact⟨b.aok Aa,λ_=>b.inv.dn⟩
  ·rintro o O⟨a1,G,a6,a7,Fq,rfl,D,S,a8⟩;refine⟨G,_,_,_,⟨a1,a6,a7,Fq,⟨D,?_,?_⟩,iP,iP⟩,S.moved,N.abs,V,?_⟩
   ·exact S.K.get h.os h.of
   ·exact λZ=>(S.new _ Z).elim h.of λZ=>by have:=ltOf h.os;omega
   ·rw[aL (by show ¬N.en=tu;rw[e];simp)];exact⟨B,K,t,j,a8,iP⟩
end
end Go.Proofs.YtcbilgmfdgpomaaGreatDoor
set_option maxRecDepth 10000
namespace Go.Proofs.YtcbilgmfdgpomaaGreatDoor
variable {A B:SA}{Q:Exit->Act->Z->Prop}{a:M}{d h:ST}{l:List M}
open Go Go.RowKit Go.Maps
def Sb{b:hQ}(h:l[i]?=ni a)(D:0<E b):∃c,(Hi l i b)[i]?=ni c/\0<E c.lo:=by
 unfold Hi
 grind
def IA(b):0<(CP b).length:=by rw[Uu];omega
def LM(m z e):0<(We m z e).length:=by rw[N3];omega
def Aas{r a G V b}(h:Hn r i a l G V)(K:a.left = -1)(d:l[i]?=ni b):∃c,V[i]?=ni c/\0<E c.lo:=by
 unfold Hn at h;split at h
 ·unfold chR at h;rw[K]at h;rcases h with⟨_,rfl,rfl⟩|⟨_,e,u,p,Y,h⟩
  ·exact Sb d (LM _ _ _)
  ·obtain⟨rfl,rfl⟩:=Vf Y;rcases h with⟨D,_⟩|⟨_,rfl,rfl⟩
   ·cases D
   ·obtain⟨c,C⟩:∃c,(Px l (Dj (a.num+1) r.p (TT r.kind) (l.map M.k) a.ks).1)[i]?=ni c:=by
     have f:=(aD.1 d).1;refine⟨_,aG ?_⟩;unfold Px;rw[List.length_zipWith,Q9,bU];omega
    exact Sb C (IA _)
 ·split at h
  ·obtain⟨rfl,rfl⟩:=h;apply Sb d;unfold AA;split
   ·exact IA _
   ·exact LM _ _ _
  ·obtain⟨rfl,rfl⟩:=h;exact Sb d (IA _)
def Gr.told{N V}(g:Gr N l V){a}(h:l[i]?=ni a)(Q:0<E a.lo):∃b,V[i]?=ni b/\0<E b.lo:=by
 have ⟨e,c,C,_⟩:=g.one i a h
 grind
def Hz.told{n x d b c G V}{B:gY}{t a r}(P:Pv n c l)(h:Hz i x [] c l K G V)(j:E6 [] x (b::B) d t)(z:n+(b::B).length+1<=1000000)(e:l[i]?=ni a)(N:a.en=o9)(Y:Hc Cp b=ni r):∃g,V[i]?=ni g/\0<E g.lo:=by
 have ⟨g,o,h⟩:=h;rw[e]at o;obtain rfl:=aA o;rw[aL (by simp[N])]at h;obtain⟨p,F,S,k,⟨s,u,f,R⟩,rfl⟩:=h;obtain⟨rfl,rfl,rfl⟩:=j.one k;cases f with
 |cons D f=>
  have ⟨q,_⟩:=P.body D Aa;have ⟨m,Q,D⟩:=D;rw[e]at Q;obtain rfl:=aA Q;rw[aL (by simp[N,P.inv.dn]),aL (by have:=P.ver a (aV e);omega),Y]at D;have ⟨C,T,v⟩:=Aas D P.inv.left e;have ⟨w,y⟩:=Pv.chain f q (by simp at z;omega);have ⟨_,A⟩:=w.long R;exact(y.trans A).told T v
def Hz.part{x a b G l'}{B:gY}{t}(h:Hz i x q b l K G l')(j:E6 q x B a t):K=q∨K=a∨K = []:=by
 have ⟨d,e,h⟩:=h;split at h
 ·exact .inl h.2.2
 ·obtain⟨f,F,S,c,_,rfl⟩:=h;obtain⟨rfl,rfl,rfl⟩:=j.one c;unfold partOf
  grind
structure PcI(nA tl i:Nat)(σ τ)(l k:List AS)(qs rs:gY):Prop where
 tw:PQ σ τ
 kl:k=l
 qr:rs=qs
 keys:l.map AS.k = [1,2]
 ln:iR qs=2
 em:i<nA->qs = [[],[]]
 z:i=0->l = [⟨1,1,o9,[]⟩,⟨2,1,o9,[]⟩]
 pv:∃n,Pv n σ l/\Pv n τ l/\n<=i+if i<nA then 0 else tl / 4+2
 lo:0<i->∃a,l[0]?=ni a/\0<iR a.lo
structure XOf(tl last b x):Prop where
 c:∃B K t,E6 [] x (b::B) K t/\4 * iR B<=tl/\(last=o9->B = []/\K = []/\t=o9)
def PcI.step{tl c G e k V q f x b F z g}(I:PcI L tl i c d l k r f)(s:i<L)(T:L+tl / 4+10<=1000000)(X:XOf tl (decide (i+1=L)) b x)(Y:Hc Cp b=ni g)(U:j<2)(w:i=0->j=0)(h:Hz j x [] c l F G V)(P:Hz j x [] d k z e q):PcI L tl (i+1) G e V q (r.set j F) (f.set j z):=by
 obtain⟨D,rfl,rfl,keys,W,y,A,⟨n,t,E,H⟩,J⟩:=I;rw[aJ s]at H;obtain⟨B,Z,a1,o,hB,u⟩:=X.c;obtain⟨K,rfl,rfl⟩:=h.det D P;have M:=y s;have p:n+(b::B).length+1<=1000000:=Ai;obtain⟨N,a6,v⟩:=t.feed h o p;obtain⟨O,_⟩:=E.feed P o p;refine⟨K,iP,iP,v.keys.trans keys,Ai,λC=>?_,λm=>Aa,⟨_,N,O,?_⟩,λ_=>?_⟩
 ·obtain⟨rfl,rfl,rfl⟩:=u Ah;have m:z = []:=by rcases P.part o with h|h|h<;>exact h
  rw[m,M];obtain rfl|rfl:j=0∨j=1:=Aa
  ·simp
  ·simp
 ·by_cases C:i+1<L
  ·rw[aJ C];obtain⟨rfl,rfl,rfl⟩:=u Ah;simp;omega
  grind
 ·by_cases m:i=0
  ·obtain rfl:=w m;have Q:=A m;exact h.told t o p (a:=⟨1,1,o9,[]⟩) (by rw[Q];rfl) iP Y
  ·obtain⟨a,R,S⟩:=J Aa;exact v.told R S
open Go.Conc Go.Pair
def Sf(l:iG)(r:Nat):List Nat:=if r∈l then l else l++[r]
section
variable {l:iG} {r x:Nat}
def Abd:r∈Sf l r:=by unfold Sf;split<;>simp_all
def Abe(h:x∈l):x∈Sf l r:=by unfold Sf;split<;>simp_all
def Agj(h:l.Nodup):(Sf l r).Nodup:=by
 unfold Sf
 grind
def Agi(h:l[i]?=ni y):(Sf l r)[i]?=ni y:=by
 unfold Sf
 grind
def Abc(h:x∈Sf l r):x∈l∨x=r:=by
 unfold Sf at h
 grind
def Z1(h:r∈l):l[l.idxOf r]?=ni r:=by
 grind
end
def Pe(l:iG)(a:rj):rj:={ a with block:=l.idxOf a.block }
def Pz(l:iG):R->R
 |um (ni a) n c=>um (ni (Pe l a)) n c
 |x=>x
def Shown(l:iG)(x:R):Prop:=Me x=tu∨∃a m k,x=um a m k/\∀b,a=ni b->b.block∈l
def GF(l:iG)(m:Ren):Prop:=∀i r,l[i]?=ni r->sh m i=r
section
variable {l:iG} {m:Ren}
def Rc(Z:Me x=tu):Pz l x=x:=by cases x<;>simp[Me]at Z<;>rfl
def Zb(h:GF l m)(Z:Shown l x):A1 m (Pz l x)=x:=by
 rcases Z with Z|⟨a,k,c,rfl,D⟩
 ·rw[Rc Z,Ut Z]
 ·cases a with
  |none=>simp[Pz]
  |some b=>
   have:=h _ _ (Z1 (D b iP));simp[Pz,Pe,Ei,this]
def GP(Z:Shown l x):A1 (.up (E l)) (Pz l x)=Pz l x:=by
 rcases Z with Z|⟨a,k,c,rfl,D⟩
 ·rw[Rc Z,Ut Z]
 ·cases a with
  |none=>simp[Pz]
  |some b=>simp[Pz,Pe,Ei,Ix (dV.2 (D b iP))]
end
def LV(x:R):R:=if Me x=tu then x else vp o9
def QS(x):Me (LV x)=tu:=by
 unfold LV;split
 ·assumption
 ·rfl
def N5(l:iG)(i:Nat)(x:R):R:=if i<8 then Pz l x else LV x
def UX(W:Z)(l:iG)(i r:Nat):Obj:=match W.1[r]? with
 |some (jf c t fz)=>jf (c.map (N5 l i)) t fz
 |_=>jf #[] 0 (0,0)
def Gk(W:Z)(l:iG):Z:={ W with heap:=(l.mapIdx (UX W l)).toArray }
structure Xj(W:qg)(l:iG):Prop where
 nod:l.Nodup
 row:∀x∈l,∃c t fz,W.1[x]?=ni (jf c t fz)
 g8:∀i,i<8->l[i]?=ni i
 glob:∀i c t fz,i<8->W.1[i]?=ni (jf c t fz)->∀(j:Nat) x,c[j]?=ni x->Shown l x
def J0L(W:Z)(l:iG)(q:Loc):Prop:=∃i j r x,q=.cell (iK i j)/\8<=i/\l[i]?=ni r/\W.cell? (iK r j)=ni x/\Me x=o9
def TAL(l:iG)(i:Nat):Prop:=8<=i/\i<E l
section
variable {l:iG} {r:Nat} {o:Obj} {h:Goroutine}
def Xj.lt(S:Xj W l):∀x∈l,x<iS W.1:=λx Z=>by
 have ⟨c,t,a,h⟩:=S.row x Z;exact ltOf h
def Xj.n(S:Xj W l):Ren:=Ren.ofList l W.1.size S.1 S.lt
def Xj.agr(S:Xj W l):GF l S.n:=λi r h=>Wo h
def Xj.len(S:Xj W l):8<=E l:=(aD.1 (S.g8 7 Aa)).1
def Jf:(Gk W l).1.size=E l:=by simp[Gk]
def MK(h:l[i]?=ni r):(Gk W l).1[i]?=ni (UX W l i r):=by simp[Gk,List.getElem?_mapIdx,h]
def Qm{c:iB}{a}(h:l[i]?=ni r)(J:W.1[r]?=ni (jf c t a)):(Gk W l).1[i]?=ni (jf (c.map (N5 l i)) t a):=by
 rw[MK h];unfold UX;rw[J]
def U3(S:Xj W l)(h:(Gk W l).1[i]?=ni o):∃r c t a,l[i]?=ni r/\W.1[r]?=ni (jf c t a)/\o=jf (c.map (N5 l i)) t a:=by
 have V:i<E l:=by rw[←Jf ];exact ltOf h
 have ⟨c,t,a,C⟩:=S.row l[i] (eU V);refine⟨_,c,t,a,aG V,C,?_⟩;rw[Qm (aG V) C]at h
 grind
def Rr(h:l[i]?=ni r):(Gk W l).cell? (iK i j)=(W.cell? (iK r j)).map (N5 l i):=by
 unfold World.cell?;rw[MK h];unfold UX
 grind
def Xj.rows(S:Xj W l):Go.Pair.RowsIn (TAL l) (Gk W l):=λi V=>by
 have K:=V.2;have ⟨c,t,a,h⟩:=S.row l[i] (eU K);exact⟨_,_,_,Qm (aG K) h⟩
def Ahh:Po (TAL l) (J0L W l):=λq f=>by
 obtain⟨i,j,r,x,rfl,C,J,_⟩:=f;exact⟨_,iP,C,(aD.1 J).1⟩
def ML(S:Xj W l){m}(L:GF l m){c:iB}{a}(h:l[i]?=ni r)(J:W.1[r]?=ni (jf c t a))(Z:c[j]?=ni x)(d:¬J0L W l (.cell (iK i j))):A1 m (N5 l i x)=x:=by
 unfold N5;split
 ·rename_i b;have:r=i:=by have:=S.g8 i b;grind
  subst this;exact Zb L (S.glob r c t a b J j x Z)
 ·by_cases I:Me x=tu
  ·simp only[LV,I,bP];exact Ut I m
  ·exact absurd ⟨i,j,r,x,iP,Aa,h,by rwa[Cg J],by simpa using I⟩ d
def Xj.side(S:Xj W l){H:E2}(d:∀q,I3 (Gk W l) q->¬J0L W l q->¬H.In (Gg S.n q))(G:Bn (.up (E l)) h=h):Dq prog S.n (JOr Y (J0L W l)) (H.Own λ_=>False) h (Gk W l) W:=by
 refine Dq.ofList S.1 S.lt Jf iP iP iP iP (λi r o V O=>?_) (λi V=>S.g8 i (by simp_all)) ⟨λi o O=>?_,by rwa[Jf]⟩ λq f b=>⟨id,d q f λa=>b (.inr a)⟩
 ·obtain⟨D,c,t,e,C,J,rfl⟩:=U3 S O;obtain rfl:=aA (V.symm.trans C);refine⟨_,J,.inr (.inl ⟨_,_,_,_,iP,iP,Ad,λj b=>?_⟩)⟩;cases M:c[j]? with
  |none=>simp[M]
  |some x=>
   simp only[aN,M,aI];exact aK ni (ML S S.agr C J M λa=>b (.inr a)).symm
 ·obtain⟨r,c,t,e,C,J,rfl⟩:=U3 S O;refine .inr (.inl ⟨_,_,_,_,iP,iP,iP,λj b=>?_⟩);cases M:c[j]? with
  |none=>simp[M]
  |some x=>
   simp only[aN,M,aI,aW];rw[Jf];unfold N5;split
   ·rename_i I;have:r=i:=by have:=S.g8 i I;rw[C]at this;exact aA this
    subst this;exact(GP (S.glob r c t e I J j x M)).symm
   ·exact(Ut (QS x) _).symm
def Xj.stand(d:Xj W l){H:E2}(n:H.3=W)(L:∀f,I3 W f->(∀K,I3 (Gk W l) K->¬J0L W l K->f≠Gg d.n K)->H.In f){m a v w}(hs:Dq prog m (JOr D5 (J0L W l)) a h v w)(a6:Ax (Gk W l) v (iR l<=·))(p:H.Kept w)(M:GF l m):∀i,i<iS W.1->w.1[i]?=W.1[i]?:=λi V=>by
 have P:∀k j(x:w8),W.cell? (iK k j)=ni x->(∀F,l[F]?=ni k->J0L W l (.cell (iK F j)))->H.In (.cell (iK k j)):=λk j x Z u=>L _ ⟨x,Z⟩ λK z e c=>by
  cases K with
  |cell y=>
   obtain⟨g,q,Q⟩:=y;simp only[Gg,Ei,Loc.cell.injEq,Addr.mk.injEq]at c;obtain⟨S,rfl,rfl⟩:=c;obtain⟨aj,a7⟩:=z;have a8:g<iR l:=by
    have:=Jw a7
    rwa[Jf]at this
   have C:=d.agr g _ (aG a8)
   grind
  |_=>simp[Gg]at c
 have O:W.1[i]?=ni W.1[i]:=aO V;generalize W.1[i]=o at O;by_cases R:∃b t A,o=jf b t A
 ·obtain⟨b,t,A,rfl⟩:=R;have E:∀B,w.1[i]?=ni (jf B t A)->B.size=b.size->(∀j x,b[j]?=ni x->B[j]?=ni x)->w.1[i]?=W.1[i]?:=λB C J T=>by
   rw[C,O]
   congr 2
   refine bV λj=>?_;by_cases e:j<b.size
   ·rw[T j b[j] (aO e),aO e]
   ·rw[cS Aa,cS Aa]
  by_cases N:b=#[]
  ·obtain⟨B,C,J⟩:=p.row i b t A (by rwa[n]) (.inl N);exact E B C J λj x Z=>by rw[N]at Z;simp at Z
  by_cases G:i∈l
  ·have X:=Z1 G;have ak:l.idxOf i<iR l:=dV.2 G;have U:=Qm X O;rw[←a6.block _ (by rwa[Jf]) Aa]at U;obtain⟨aa,C,J⟩:=(hs.sm 0).4 _ _ U;rw[M _ _ X]at C;have s:∀B,w.1[i]?=ni (jf B t A)->B.size=b.size->(∀j,¬(JOr D5 (J0L W l)) (.cell ⟨l.idxOf i,j,su⟩)->B[j]?=((b.map (N5 l (l.idxOf i)))[j]?).map (A1 m))->w.1[i]?=W.1[i]?:=λB Y g2 ab=>E B Y g2 λj x Z=>by
    by_cases u:J0L W l (.cell ⟨l.idxOf i,j,su⟩)
    ·have T:=p.cell (iK i j) (P i j x (by rwa[Cg O]) λF I=>by
      have:F=l.idxOf i:=by
       exact(gM d.1).1 (((aD.1 I)).2.trans ((aD.1 X)).2.symm)
      rwa[this])
     rw[n,Cg Y,Cg O]at T
     rwa[T]
    ·rw[ab j λae=>ae.elim id u,aN,Z,aI,aI,ML d M X O Z u]
   rcases J with rfl|⟨al,B,af,ah,S,rfl,e2,e3⟩|⟨⟨T|T,_⟩,_⟩|⟨B,af,ah,S,rfl⟩
   ·exact s _ C Ad λj e=>Ad
   ·cases S;exact s _ C (by rw[e2];simp) e3
   ·exact T.elim
   ·obtain⟨_,_,_,_,c,_⟩:=T;cases c
   ·exfalso;have:b.map (N5 l (l.idxOf i))=#[]:=by
     simp only[Obj.cells.injEq]at S;exact S.1
    exact N (by simpa using this)
  ·have ad:∀j x,b[j]?=ni x->H.In (.cell (iK i j)):=λj x Z=>P i j x (by rwa[Cg O]) λF I=>absurd (aV I) G;have ai:0<b.size:=Nat.pos_of_ne_zero λc=>N (dU c);obtain⟨B,C,J⟩:=p.row i b t A (by rwa[n]) (.inr ⟨0,ad 0 b[0] (aO ai)⟩);refine E B C J λj x Z=>?_;have T:=p.cell (iK i j) (ad j x Z);rw[n,Cg C,Cg O]at T
   rwa[T]
 ·have a1:Ci o:=λb t A c=>R ⟨b,t,A,c⟩;rw[O];refine p.obj i o (L _ ⟨o,O,a1⟩ λK z e c=>?_) (by rwa[n]) a1;cases K with
  |obj r=>
   obtain⟨aa,C,J⟩:=z;obtain⟨D,b,t,A,_,_,rfl⟩:=U3 d C;exact J _ _ _ iP
  |_=>simp[Gg]at c
end
def PT(f:iD):Act:={ tmps:=#[f 0,f 1,f 2,f 3,f 4,f 5,f 6,f 7,f 8,f 9,f 10,f 11,f 12,f 13,f 14,f 15,f 16,f 17,f 18,f 19,f 20,f 21,f 22,f 23,f 24,f 25,f 26,f 27,f 28,f 29,f 30,f 31,f 32,f 33,f 34,f 35,f 36,f 37,f 38,f 39,f 40,f 41,f 42,f 43,f 44,f 45,f 46,f 47,f 48,f 49,f 50,f 51,f 52,f 53,f 54,f 55,f 56,f 57,f 58,f 59,f 60,f 61,f 62,f 63,f 64,f 65,f 66,f 67,f 68,f 69,f 70,f 71,f 72,f 73,f 74,f 75,f 76,f 77,f 78,f 79,f 80,f 81,f 82,f 83,f 84,f 85,f 86,f 87,f 88,f 89,f 90,f 91,f 92,f 93,f 94,f 95,f 96,f 97,f 98,f 99,f 100,f 101,f 102,f 103,f 104,f 105,f 106,f 107,f 108,f 109,f 110,f 111,f 112,f 113,f 114,f 115,f 116,f 117,f 118,f 119,f 120,f 121,f 122,f 123,f 124,f 125,f 126,f 127,f 128,f 129,f 130,f 131,f 132,f 133,f 134,f 135,f 136,f 137,f 138,f 139,f 140,f 141,f 142,f 143,f 144,f 145,f 146,f 147,f 148,f 149,f 150,f 151,f 152,f 153,f 154,f 155,f 156,f 157,f 158,f 159,f 160,f 161,f 162,f 163,f 164,f 165,f 166,f 167,f 168,f 169,f 170,f 171,f 172,f 173,f 174,f 175,f 176,f 177,f 178,f 179,f 180,f 181,f 182,f 183,f 184,f 185,f 186,f 187,f 188,f 189,f 190,f 191,f 192,f 193,f 194,f 195,f 196,f 197,f 198,f 199],defers:=[] }
def Ji{a}{P:(Nat->R)->Prop}(h:a=PT λj=>a.tmps.getD j undef)(Q:P λj=>a.tmps.getD j undef):∃f,a=PT f/\P f:=⟨_,h,Q⟩
def rP:Nat->Code
 |0=>Tryz.f3.body.getD .skip
 |n+1=>Code.two (rP n)
def Nw(n:Nat):Code:=Code.one (rP n)
structure Pu(az tz cz os ot)(f:iD):Prop where
 h0:f 0=az
 h1:f 1=tz
 h2:f 2=cz
 h11:f 11=iI os
 h12:f 12=iL 1
 h13:f 13=iI ot
 h14:f 14=iL 1
section
variable {Post:PA y F} {D K:Nat} {p q:R} {v:hY}
def Aqp:Hj prog tu Y (P Post) 3 (Nw 0) (λe l O=>e=.normal/\∃r,l=PT r/\(r 0=f 0/\r 1=f 1/\r 2=f 2)/\O=u) (PT f) u:=by
 unfold Nw PT;simp only[rP,Tryz.f3,bJ,Code.one,Code.two];refine Mwc ?_;exact Au ⟨iP,Ji iP ⟨⟨iP,iP,iP⟩,iP⟩⟩
def Aqq:Hj prog tu Y (P Post) 3 (Nw 1) (λe l O=>e=.normal/\∃r,l=PT r/\(r 0=f 0/\r 1=f 1/\r 2=f 2/\r 7=w9 (ni ⟨iS u.1+1,0,su⟩))/\Ax u O iO/\Hs O (iS u.1+1) u.1.size/\iS u.1+3<=iS O.1) (PT f) u:=by
 unfold Nw PT;refine Ay ?_;refine A3 MT iP Ac iP Af ?_;rintro x Z⟨rfl,H,S,b⟩;refine Mtk ?_;exact Au ⟨iP,Ji iP ⟨⟨iP,iP,iP,iP⟩,H,S,b⟩⟩
def Aqr:Hj prog tu Y (P Post) 3 (Nw 2) (λe l O=>e=.normal/\∃r,l=PT r/\(r 0=f 0/\r 1=f 1/\r 2=f 2/\r 7=f 7/\r 9=w9 (ni ⟨iS u.1+1,0,su⟩))/\Ax u O iO/\Hs O (iS u.1+1) u.1.size/\iS u.1+3<=iS O.1) (PT f) u:=by
 unfold Nw PT;refine Ay ?_;refine A3 MT iP Ac iP Af ?_;rintro x Z⟨rfl,H,S,b⟩;refine Mtk ?_;exact Au ⟨iP,Ji iP ⟨⟨iP,iP,iP,iP,iP⟩,H,S,b⟩⟩
def Aqs(U:Im Cp F)(C:Cx F y Y c u)(G:∀i,i<8->∃d e g,u.1[i]?=ni (jf d e g))(b:Hs u D K)(L:y<=D)(v:y<=K)(N:¬c D)(W:¬c K)(M:f 7=iI D):Hj prog tu Y (P Post) 3 (Nw 3) (λe l O=>e=.normal/\∃r,l=PT r/\∃a,(r 0=f 0/\r 1=f 1/\r 2=f 2/\r 9=f 9/\r 11=iI a/\r 12=iL 1)/\Aa6 F y c u O D K a) (PT f) u:=by
 unfold Nw PT;refine Mwc ?_;refine A3 (Ajb (Post:=Post) U C G b L v N W) iP Ac iP (by walk_nrm;rw[M]) ?_;rintro x Z⟨a,rfl,S⟩;refine Mtk ?_;exact Au ⟨iP,Ji iP ⟨a,⟨iP,iP,iP,iP,iP,iP⟩,S⟩⟩
def Aqt(U:Im Cp F)(C:Cx F y Y c u)(G:∀i,i<8->∃g e h,u.1[i]?=ni (jf g e h))(b:Hs u D K)(L:y<=D)(v:y<=K)(N:¬c D)(W:¬c K)(M:f 9=iI D):Hj prog tu Y (P Post) 3 (Nw 4) (λe l O=>e=.normal/\∃r,l=PT r/\∃d,(r 0=f 0/\r 1=f 1/\r 2=f 2/\r 11=f 11/\r 12=f 12/\r 13=iI d/\r 14=iL 1)/\Aa6 F y c u O D K d) (PT f) u:=by
 unfold Nw PT;refine Mwc ?_;refine A3 (Ajb (Post:=Post) U C G b L v N W) iP Ac iP (by walk_nrm;rw[M]) ?_;rintro x Z⟨a,rfl,S⟩;refine Mtk ?_;exact Au ⟨iP,Ji iP ⟨a,⟨iP,iP,iP,iP,iP,iP,iP⟩,S⟩⟩
def Aqu(S:Pu p s q os b f):Hj prog tu Y (P Post) 3 (Nw 5) (λe l O=>e=.normal/\∃r,l=PT r/\Pu p s q os b r/\O=u) (PT f) u:=by
 unfold Nw PT;rw[S.4,S.6];refine Rxn ?_
 iterate 6(refine V2g ?_)
 refine Zln ?_;refine Nqc ?_;exact⟨trivial,Ji iP ⟨⟨S.1,S.2,S.h2,iP,S.5,iP,S.7⟩,trivial⟩⟩
theorem VO{o:Nat}(U:Im Cp F)(H:Sv F y c u o A { σ0 with last:=1 } [⟨1,1,o9,[]⟩] [[]] v):Bg prog tu D5 (Jh Post) 8 #[iI o] u λx O=>x=iL 2/\∃a,Sv F y (λj=>c j∨j=u.1.size) O o A { σ0 with last:=2 } [⟨1,1,o9,[]⟩,⟨2,1,o9,[]⟩] [[],[]] a/\Fu u O v a:=by
 obtain⟨L,e,s,l,H,K,rfl⟩:=H;have b:l.length=1:=by have:=aK List.length K;simpa using this
 refine Bp (ON U H.H H.os iP H.of (by rw[b];rfl) iP (.inr ⟨iP,iP⟩) Aa (λp Q J=>?_) (by rw[K];exact Ani (bE _) (bE _)) (λf h=>?_)) ?_
 ·have:=dC (f:=SI.abs) Q;rw[K]at this;simp at this;have:=aK AS.k this;rw[show p.abs.k=p.k from iP,J]at this;cases this
 ·grind
 rintro x i⟨rfl,X,C,g,d,D,t,E,B⟩;exact⟨iP,_,⟨X,C,g,d,⟨D,t.K.get H.os H.of,λZ=>(t.new _ Z).elim H.of λZ=>by have:=ltOf H.os;omega⟩,by rw[E,K];rfl,iP⟩,t⟩
def Aqv(U:Im Cp F)(S:Pu p s q os b f)(H:Sv F y c u os A { σ0 with last:=1 } [⟨1,1,o9,[]⟩] [[]] v):Hj prog tu Y (P Post) 3 (Nw 6) (λe l O=>e=.normal/\∃r,l=PT r/\(Pu p s q os b r/\r 15=iL 2)/\∃a,Sv F y (λj=>c j∨j=iS u.1) O os A { σ0 with last:=2 } [⟨1,1,o9,[]⟩,⟨2,1,o9,[]⟩] [[],[]] a/\Fu u O v a) (PT f) u:=by
 unfold Nw PT;rw[S.4];refine Mwc ?_;refine A3 (VO (Post:=Post) U H) iP Ac iP Af ?_;rintro x Z⟨rfl,R,D,M⟩;walk_nrm;refine V2g ?_;exact Au ⟨iP,Ji iP ⟨⟨⟨S.1,S.2,S.h2,iP,S.5,S.6,S.7⟩,iP⟩,R,D,M⟩⟩
def Aqw(U:Im Cp F)(S:Pu p s q os b f)(d:f 15=iL 2)(H:Sv F y c u b A { σ0 with last:=1 } [⟨1,1,o9,[]⟩] [[]] v):Hj prog tu Y (P Post) 3 (Nw 7) (λe l O=>e=.normal/\∃r,l=PT r/\(Pu p s q os b r/\r 15=iL 2/\r 16=iL 2)/\∃a,Sv F y (λj=>c j∨j=iS u.1) O b A { σ0 with last:=2 } [⟨1,1,o9,[]⟩,⟨2,1,o9,[]⟩] [[],[]] a/\Fu u O v a) (PT f) u:=by
 unfold Nw PT;rw[S.6];refine Mwc ?_;refine A3 (VO (Post:=Post) U H) iP Ac iP Af ?_;rintro x Z⟨rfl,R,D,M⟩;walk_nrm;refine V2g ?_;exact Au ⟨iP,Ji iP ⟨⟨⟨S.1,S.2,S.h2,S.4,S.5,iP,S.7⟩,d,iP⟩,R,D,M⟩⟩
end
structure Ajt{gN Tabs}(A:PA gN Tabs)(b off x):Prop where
 ta:A.2 b
 c0:A.base.cell? (iK b off)=ni (iL x)
 j0:¬A.4 (.cell (iK b off))
def KH{gN Tabs}(A:PA gN Tabs)(u0:Z)(oC:iE)(zs:List Int):Prop:=∀i(z:Int),zs[i]?=ni z->∃b off,oC=ni (iK b off)/\(Ajt A b (off+i) z∨b<8/\u0.cell? ⟨b,off+i,su⟩=ni (iL z))/\Sh z
section
variable {A:PA y F} {j:FuncId} {a:Act} {g:Array Oper} {l:iG} {o:Oper}
def Aht{x}(h:Ajt A b off x)(O:g[i]?=ni o)(w:Region.wanted o (yielded g a.tmps)=tu)(V:Nx prog (env Lv) j o)(T:o.op=.load 3 (.tmp k))(E:a.eval (.tmp k)=w9 (ni (iK b off)))(F:opsV prog tu Y (Jh A) j g l Q (a.put o.dst (iL x)) e):opsV prog tu Y (Jh A) j g (i::l) Q a e:=by
 intro J q m r P s;refine EV.stop λf p v D=>?_;apply EN.ofP D;have z:=EV.show A.6 A.rows p (EV.at (F J q m r P s) f);have y:=λc:Nat=>Um p (a:=(iK b c)) h.1;generalize Cb A.2 A.base _=W at z y D⊢;have B:∀{c},¬A.4 _->¬A.JX (.cell (iK b c)):=λt h=>h.elim (λh=>h) t;have n:∀M:Nat,Go.Pair.Yields prog (execOp a.eval o) (W.at M) (iL x) (W.at M)/\∀d∈(execOp a.eval o).events prog (W.at M) #[],Fb A.JX d:=λM=>by
  have u:(W.at M).cell? (iK b off)=ni _:=((y _).trans h.c0);unfold execOp;rw[T];simp only[E];refine⟨.inl ?_,λd N=>?_⟩
  ·go_simp
  ·simp[go_sem,u]at N;subst N;exact Cl (B h.j0)
 exact EV.opEv P O w V (A4 _ _) (λM=>(n M).1) (λM=>(n M).2) z
def Ad0{x}(h:Ajt A b off x∨e.cell? (iK b off)=ni (iL x))(c:g[i]?=ni o)(W:Region.wanted o (yielded g a.tmps)=tu)(V:Nx prog (env Lv) j o)(O:o.op=.load 3 (.tmp k))(E:a.eval (.tmp k)=w9 (ni (iK b off)))(F:opsV prog tu Y (P A) j g l Q (a.put o.dst (iL x)) e):opsV prog tu Y (P A) j g (i::l) Q a e:=by
 rcases h with h|h
 ·exact Aht h c W V O E F
 have n:∀M:Nat,Go.Pair.Yields prog (execOp a.eval o) (e.at M) (iL x) (e.at M)/\∀f∈(execOp a.eval o).events prog (e.at M) #[],Fb Y f:=λM=>by
  have d:(e.at M).cell? (iK b off)=ni _:=h;unfold execOp;rw[O];simp only[E];refine⟨.inl ?_,λf N=>?_⟩
  ·go_simp
  ·simp[go_sem,d]at N;exact Cl (PG _)
 exact Cy c W V (A4 _ _) (λM=>(n M).1) (λM=>(n M).2) F
end
def XL(Y:hU)(z)(h:z<=Y.size)(w):(Instr.sliceAt 9 (x7 Y) su (ni (iL z)) su).events prog w #[]=#[]:=by
 exact Vc1
def XM(Y:hU)(z)(h:z<=Y.size)(w):(Instr.sliceAt 9 (x7 Y) (ni (iL z)) su su).events prog w #[]=#[]:=by
 exact Vc1
def HJ(Y:hU)(z):(Y.extract 0 z).data.toList=Y.data.toList.take z:=by
 simp
def GZ(Y:hU)(z)(h:z<=Y.size):(Y.extract z Y.size).data.toList=Y.data.toList.drop z:=by
 simp only[fF,fK,eR];exact bN Ad
def GQ:Code->Code
 |.block _ c=>c
 |_=>.skip
def MM:Code->Code
 |.loop c=>c
 |_=>.skip
def bdP:Code:=GQ (Code.one (Code.two (MM (GQ (Code.two (Nw 8))))))
def inP:Code:=Code.two (Code.two (Code.two (Code.two (Code.two (Code.two bdP)))))
section
variable {Post:PA y F} {p:R} {k:List M} {w v:hY} {m:iE} {n:Nat}
def Aov(c n)(M:Sh c)(z:0<n)(p:n<=9223372036854775807)(w):Bg prog tu Y (P Post) 11 #[iL c,iL n] w λy B=>Ax w B iO/\y=iL (Mo c n):=
 Bp (Pf Ae (R:=λy _=>y=iL (Mo c n)) λw W N=>(Qv w c n M z p).mono λe B h=>⟨⟨_,h.1,iP⟩,by rw[h.2];exact Ax.refl _ _⟩) λy B h=>⟨h.1,Ai⟩
def Ma.feedT(U:Im Cp F)(T:Ma e F y c u os b A B d h l k r o w v)(V:k[j]?=ni a)(t:o[j]?=ni q){m}(P:Pv m h k){x:hQ}(L:m+(1004+iR x) / 4<=1000000){f}(S:PC y c u v B.D ob f I x):Bg prog tu D5 (Jh Post) 10 #[iI b,iL a.k,Jd ob f (iR x) I] u λz O=>∃n p K g,Ma e F y c O os b A B d n l p r (o.set j K) w g/\Hz j x q h k K n p:=by
 have i:Pl q:=by
  obtain⟨J,Q,W,se,C,rfl,rfl⟩:=T.t;obtain⟨N,H,_⟩:∃N,se[j]?=ni N/\N.abs=a:=by
   grind
  have ⟨X,Y,i,_⟩:=C.H.Q.one j N H
  grind
 have ⟨Z,a1,a6,s⟩:=Nz _ q x (aB _) i;have a7:=s.count;have a8:=i.lt;apply Bp (T.t.feedR U V t P s Aa S);rintro z O⟨G,D,K,g,E,M,R⟩;exact⟨G,D,K,g,T.mvT E M,R⟩
theorem Ak7(ae:Im Cp F)(S:Pu p s (um m g z) os b f)(Z:f 15=iL 2)(a1:f 16=iL 2)(a6:f 17=x)(G:f 18=x7 X)(aa:f 20=iL a.k){C:List Int}(hz:KH Post e m C)(bb:C.length=g)(hc:g<=z)(bc:g<=2000000)(an:Ma e F y c u os b A B d h l k r o w v)(V:k[j]? = ni a)(hq:o[j]? = ni q)(ab:Pl q)(au:Pv n h k)(hb:n+(q.length+X.size) / 4+600<=1000000)(hX:X.size<=2000000) :
  Hj prog tu D5 (Jh Post) 3 inP (λao Q O=>ao=.normal/\∃E,Q=PT E/\(Pu p s (um m g z) os b E/\E 15=iL 2/\E 16=iL 2/\E 17=x)/\∃K I L af,Ma e F y c O os b A B d K l I r (o.set j L) w af/\Hz j X.data.toList q h k L K I) (PT f) u:=by
 have av:j<o.length:=(aD.1 hq).1;have st:∀{pre L:hQ} {K:ST} {I:List AS},pre.length<=X.size->Hz j pre q h k L K I->∃Q,I[j]? = ni Q/\Q.k=a.k/\∃aq,Pv aq K I/\aq<=n+(q.length+pre.length) / 4+1:=λ{pre L K I} hp aw=>by
  obtain⟨bd,bf,t,hC⟩:=Nz _ q pre (aB _) ab;have bg:=hC.count;obtain⟨P',bh,a7⟩:=au.feed aw hC Aa;obtain⟨ao,bj,M,_⟩:=a7.one j a V;exact⟨_,M,iP,_,P',by split <;> omega⟩
 unfold inP bdP Nw PT;simp only[rP,Tryz.f3,bJ,Code.one,Code.two,GQ,MM];rw[G,aa,S.h2,S.6];refine R5v ?_;refine Ths ?_;refine Du ?_;refine Mt (n:=g) (I:=λt Q H=>∃(i:Nat),t+i=g/\∃(E:iD),Q=PT E/\(Pu p s (um m g z) os b E/\E 15=iL 2/\E 16=iL 2/\E 17=x/\E 20=iL a.k/\E 21=iL i)/\∃(Y:hU)(pre:hQ),E 18=x7 Y/\X.data.toList=pre++Y.data.toList/\∃K I L af,Ma e F y c H os b A B d K l I r (o.set j L) w af/\Hz j pre q h k L K I) ?_ ?_
 case refine_2=>exact⟨0,Aa,Ji iP ⟨⟨⟨S.1,S.2,iP,S.4,S.5,iP,S.7⟩,Z,a1,a6,iP,iP⟩,X,[],iP,iP,h,k,q,v,by rw[BM hq];exact an,Hz.nil V⟩⟩
 clear S Z a1 a6 G aa an;rintro t Q H⟨i,bk,f,rfl,⟨S,Z,a1,a6,aa,ax⟩,Y,pre,G,ad,τ1,k1,q1,bm,T,R1⟩;have bn:pre.length+Y.size=X.size:=by
  have:=aK List.length ad;simp only[aM]at this;exact this.symm
 obtain⟨bo,V1,ah,m1,P1,bq⟩:=st Aa R1;have ai:(o.set j q1)[j]? = ni q1:=by rw[bI av]
 have h2:=S.h2;have ay:=S.6;unfold PT;rw[h2,ay,G,aa,ax];have br:∀(a7:iD),(Pu p s (um m g z) os b a7/\a7 15=iL 2/\a7 16=iL 2/\a7 17=x)->True:=λ_ _=>trivial;by_cases hi:i<g
 case neg=>
  obtain rfl:i=g:=Aa;refine R5v ?_;refine Trb ?_;refine Kbk ?_;refine V2g ?_
  iterate 3(refine Fi4 ?_)
  exact Qt1
 case pos=>
  have bu:(i:Int)<(g:Int):=Aa;by_cases hy:Y.size=0
  ·have az:¬(0:Int)<(Y.size:Int):=Aa;refine R5v ?_;refine Trb ?_;refine Bom ?_;refine Trb ?_;refine Kbk ?_;exact Qt1
  ·have bw:0<Y.size:=Aa;have az:(0:Int)<(Y.size:Int):=Aa;refine R5v ?_;refine Trb ?_;refine Bom ?_;refine Trb ?_;refine Bom ?_;refine Ths ?_;refine E37 ?_;refine Nqc ?_;obtain⟨zc,b5⟩:∃D,C[i]? = ni D:=⟨_,aG Aa⟩;obtain⟨cb,b6,rfl,b7,b8⟩:=hz i zc b5;have bx:(g:Int)<=(z:Int):=Aa;obtain⟨p0,p1⟩:=O5 zc (n:=(Y.size:Int)+1) Aa;have bz:IntKind.i64.wrap ((Y.size:Int)+1)=(Y.size:Int)+1:=by simp[vgf,yum,dut];omega
   obtain⟨D,b9⟩:∃D:Nat,Mo zc ((Y.size:Int)+1)=D:=⟨(Mo zc ((Y.size:Int)+1)).toNat,Aa⟩;have al:D<=Y.size:=Aa;refine Aw ?_;refine Du ?_;refine Rxn ?_;refine Wad ?_;refine B6 (w9 (ni ⟨cb,b6+i,su⟩)) ?_;walk_nrm;refine Ad0 (b7.imp id λar=>(Ce (T.kl.block cb (Jw ar.2) (by have:=T.s.C.g8;omega))).trans ar.2) iP Ac (B7 Ab) iP Ac ?_;walk_nrm;refine Wad ?_;refine B6 (iL ((Y.size:Int)+1)) ?_;walk_nrm;refine A3 (Aov zc ((Y.size:Int)+1) b8 Aa Aa H) iP Ac iP Af ?_;rintro ak w1⟨K1,rfl⟩;rw[b9];walk_nrm;refine Ths ?_;refine Rxn ?_;refine Ldr ?_;have c6:¬(D:Int)<0:=Aa;have c7:(D:Int)<=(Y.size:Int):=Aa;refine Fh (S:=env Lv) (x:=x7 (Y.extract 0 D)) iP Ac (B7 Ab) (A4 _ _) Ajr (λH=>by have M:=XL Y D al H;first|(simp[go_sem,M];done)|(go_simp;exact M)) ?_;walk_nrm;have T0:=T.kf K1;refine Ls (Y.extract 0 D) iP Ac iP iP (B7 Ab) ?_;intro w2 aj cs fz J b2 R U W;walk_nrm;have N:=T0.kf J;have c8:(Y.extract 0 D).size=D:=by rw[cM];omega
   refine A3 (N.feedT (Post:=Post) ae V1 ai P1 (x:=(Y.extract 0 D).data.toList) (by show m1+(1004+(Y.extract 0 D).size) / 4<=1000000;omega) (T0.t.bin J b2 R U W)) iP Ac iP Aav ?_;rintro ak w3⟨τ3,k3,q3,a8,P,R3⟩;walk_nrm;refine Vj2 ?_;refine Qit ?_;refine Fh (S:=env Lv) (x:=x7 (Y.extract D Y.size)) iP Ac (B7 Ab) (A4 _ _) Ajr (λH=>by have M:=XM Y D al H;first|(simp[go_sem,M];done)|(go_simp;exact M)) ?_;walk_nrm;refine Ths ?_;have ba:IntKind.i64.wrap ((i:Int)+1)=((i+1:Nat):Int):=by simp[vgf,yum,dut];omega
   refine Mwc ?_;refine B6 (iL ((i+1:Nat):Int)) ?_;walk_nrm;refine Ths ?_;refine⟨g - (i+1),Aa,i+1,Aa,Ji iP ⟨⟨⟨S.1,S.2,iP,S.4,S.5,iP,S.7⟩,Z,a1,a6,iP,iP⟩,Y.extract D Y.size,pre++(Y.extract 0 D).data.toList,iP,?_,τ3,k3,q3,a8,by rw[List.set_set]at P;exact P,R1.comp ab R3⟩⟩;rw[ad,HJ,GZ Y D al,bY,dO]
end
def Ali(h:w.ShapedOpen prog):∃m,w.cell? ⟨1,0,su⟩=ni (iL m):=
 cell_of_shapedOpen_int (g:=1) (t:=3) (zero:=#[iL 0]) h (of_decide_eq_true Ab) Ab iP Ab Ab underlying3
section
variable {l:iG} {b:iH}
def Aj1(W:Z)(l:iG)(L:Z):Prop:=UC L/\∀k,L.cell? ⟨4,k,su⟩=(Gk W l).cell? ⟨4,k,su⟩
def Aq1:Im Cp (Aj1 W l) where
 gives:=λs w V c=>utf.gives s w V.1 c
 kept:=λ{B w b} a D h=>have d:8<=B:=a
  ⟨utf.kept a D h.1,λk=>(D.cell Ah).trans (h.2 k)⟩
 size:=λ{w} h=>utf.size h.1
def HW(S:Xj W l)(b:iH):E2 where
 post:=b
 In:=λq=>I3 W q/\∀q',I3 (Gk W l) q'->¬J0L W l q'->q≠Gg S.n q'
 W0:=W
 ex:=λa h=>h.1
 exO:=λr h=>h.1
 exM:=λq h=>by
  cases q with
  |cell a=>exact .inl ⟨_,iP⟩
  |obj r=>exact .inr ⟨_,iP⟩
  |_=>exact h.1.elim
 num:=E l
 nf:=λi=>l.getD i 0
def DS(W:Z)(l:iG):Prop:=∀kind,kind=1∨kind=2∨kind=3->∃g,g∈l/\8<=g/\Pw W kind g (TT kind)
def TC(S:Xj W l){r}(h:r∈l)(I:8<=r):8<=l.idxOf r:=Nat.le_of_not_lt λY=>by
 have C:=S.g8 _ Y
 grind
def Dz{r}(Y:l[i]?=ni r)(I:8<=i)(M:W.cell? (iK r k)=ni v)(b:Me v=tu):(Gk W l).cell? (iK i k)=ni v/\¬J0L W l (.cell (iK i k)):=by
 refine⟨?_,?_⟩
 ·rw[Rr Y,M,aI];simp[N5,Nat.not_lt.2 I,LV,b]
 ·rintro⟨F,c,D,x,e,_,C,J,T⟩
  grind
def PAL(S:Xj W l)(ht:DS W l)(b:iH):PA (E l) (Aj1 W l) where
 H:=HW S b
 TA:=TAL l
 base:=Gk W l
 J0:=J0L W l
 rows:=S.rows
 jin:=Ahh
 lt:=λi h=>h.2
 ge:=λi h=>h.1
 tl:=λL hL kind hk=>by
  obtain⟨g,hg,h8,⟨o,h4,hc⟩⟩:=ht kind hk;have hi:=Z1 hg;have hi8:=TC S hg h8;refine⟨l.idxOf g,o,⟨hi8,dV.2 hg⟩,?_,λj x hx=>?_⟩
  ·rw[hL.2 kind,Rr (S.g8 4 Aa),h4]
   rfl
  ·obtain⟨a1,a2,a3⟩:=hc j x hx;exact⟨⟨(Dz hi hi8 a1 iP).1,(Dz hi hi8 a2 iP).1,(Dz hi hi8 a3 iP).1⟩,(Dz hi hi8 a1 iP).2,(Dz hi hi8 a2 iP).2,(Dz hi hi8 a3 iP).2⟩
def Ago(S)(R:DS W l){e X}(y:Aa1 W e X)(p:∀c,e=ni c->c.block∈l)(I:∀c off x,AkW W c off x->8<=c):Y2 (PAL S R b) (e.map (Pe l)) X:=λi x Z=>by
 obtain⟨c,off,rfl,h,d⟩:=y i x Z;have D:=p _ iP;have V:=Z1 D;have H:=TC S D (I _ _ _ h);exact⟨l.idxOf c,off,iP,⟨⟨H,dV.2 D⟩,(Dz V H h.c0 iP).1,(Dz V H h.c1 iP).1,(Dz V H h.c2 iP).1,(Dz V H h.c3 iP).1,(Dz V H h.c4 iP).1,(Dz V H h.c5 iP).1,(Dz V H h.c0 iP).2,(Dz V H h.c1 iP).2,(Dz V H h.c2 iP).2,(Dz V H h.c3 iP).2,(Dz V H h.c4 iP).2,(Dz V H h.c5 iP).2⟩,d⟩
structure Laid(W):Prop where
 tabs:UC W
 table:Table W
 ml:∃m,W.cell? ⟨1,0,su⟩=ni (iL m)
 rq1:W.cell? ⟨0,4,su⟩=ni (x7 ⟨#[40,52,52,116,98,41]⟩)
 rq2:W.cell? ⟨0,7,su⟩=ni (x7 ⟨#[40,52,52,116,52,41]⟩)
 rq3:W.cell? ⟨0,10,su⟩=ni (x7 ⟨#[40,52,52,116,98,52,41]⟩)
 rq5:W.cell? ⟨0,16,su⟩=ni (x7 ⟨#[40,52,52,116,63,41]⟩)
 rq4:W.cell? ⟨0,13,su⟩=ni (x7 ⟨#[40,52,52,116,63,41]⟩)
 rq6:W.cell? ⟨0,19,su⟩=ni (x7 ⟨#[40,52,52,116,63,41]⟩)
 rq7:W.cell? ⟨0,22,su⟩=ni (x7 ⟨#[40,52,52,41]⟩)
 an4:W.cell? ⟨3,4 * 3+1,su⟩=ni (x7 ⟨#[40,52,56,52,98,40,56,56,52,52,41,41]⟩)
 an6:W.cell? ⟨3,6 * 3+1,su⟩=ni (x7 ⟨#[40,52,56,52,91,116,93,41]⟩)
 an7:W.cell? ⟨3,7 * 3+1,su⟩=ni (x7 ⟨#[40,52,56,52,41]⟩)
 an1:W.cell? ⟨3,1 * 3+1,su⟩=ni (x7 ⟨#[40,52,56,52,116,41]⟩)
 an2:W.cell? ⟨3,2 * 3+1,su⟩=ni (x7 ⟨#[40,52,56,52,41]⟩)
 an3:W.cell? ⟨3,3 * 3+1,su⟩=ni (x7 ⟨#[40,52,56,52,40,56,56,52,52,41,41]⟩)
 an5:W.cell? ⟨3,5 * 3+1,su⟩=ni (x7 ⟨#[40,52,56,52,40,56,56,52,52,41,41]⟩)
def Ab6(S:Xj W l)(L:Laid W):Cx (Aj1 W l) (E l) Y iO (Bb (TAL l) (Gk W l)):=by
 refine⟨⟨λi h=>h.elim,λa h=>h.elim,λr h=>h.elim,λm h=>h⟩,λv q s=>?_,λi h=>h.elim,by rw[Dd,Jf];exact aB _,S.len⟩;have D:∀i,i<8->v.1[i]?=(Gk W l).1[i]?:=λi V=>by
  rw[q i V,Bu];cases(Gk W l).1[i]? with
  |none=>rfl
  |some o=>simp[TAL,show ¬8<=i by omega]
 have B:∀{g k} {x},g<8->W.cell? (iK g k)=ni x->Me x=tu->v.cell? (iK g k)=ni x:=λ{g k x} G h e=>by
  rw[o2 (w:=Gk W l) (a:=(iK g k)) (D g G),Rr (S.g8 g G),h,aI];simp[N5,G,Rc e]
 obtain⟨m,n⟩:=L.ml;have d:Table v:=by
  obtain⟨t,X,M⟩:=L.table;refine⟨t,X,?_⟩;rw[D 7 Aa,Qm (S.g8 7 Aa) M]
  congr 2
  refine bV λj=>?_;rw[aN];cases f:Gd[j]? with
  |none=>rfl
  |some x=>
   have:=cR.1 MH _ (aV Aa4);simp[N5,Rc this]
 exact { size:=s,tabs:=⟨⟨⟨λc h=>B Aa (L.tabs.1.1 c h) iP,λi h=>⟨B Aa (L.tabs.1.2 i h).1 iP,B Aa (L.tabs.1.2 i h).2 iP⟩⟩,(aF S.len s)⟩,λk=>o2 (w:=Gk W l) (a:=⟨4,k,su⟩) (D 4 Aa)⟩,table:=d,rq1:=B Aa L.4 iP,rq2:=B Aa L.5 iP,rq3:=B Aa L.6 iP,rq5:=B Aa L.7 iP,rq4:=B Aa L.8 iP,rq6:=B Aa L.9 iP,rq7:=B Aa L.10 iP,an4:=B Aa L.11 iP,an6:=B Aa L.12 iP,an7:=B Aa L.13 iP,an1:=B Aa L.14 iP,an2:=B Aa L.15 iP,an3:=B Aa L.16 iP,an5:=B Aa L.17 iP,ml:=⟨m,B Aa n iP⟩ }
def Aaj{P}{b:Frame}{a c u}(z:b.kind=.normal)(y:a.defers = [])(I:P.funcs[b.fn]?=ni u)(Y:(results u a.tmps).run P w=.ok v w)(N:(results u a.tmps).events P w #[]=#[])(V:P.inits.idxOf? b.fn=su):stepG P tu (G { b.at a c with mode:=.returning } []) w=.ended (.done v) w #[]:=by
 simp[G,stepG,unwind,doReturn,Frame.at,z,y,I,Y,N,V,seen,GStep.after]
def NR(S:Xj W l):Plain (Gk W l):=λi o O=>by
 obtain⟨_,_,_,_,_,_,rfl⟩:=U3 S O
 trivial
def f3(x y z:R):Nat->R
 |0=>x
 |1=>y
 |2=>z
 |_=>undef
end
structure Row(u:qg)(v)(lo:hQ)(F G:hY):Prop where
 own:u.ownsRow 0 5 1 v (iR lo) (A5 lo)
 nf:∀g,v.ownBlock=ni g->¬F g/\¬G g
def Row.mvS{s F R G}(a:Row u v s F G)(M:Fu u O F R):Row O v s R G:=
 ⟨Di a.own λg h=>M.K.block g (Cm a.own h) (a.nf g h).1,λg h=>⟨λk=>(M.new g k).elim (a.nf g h).1 λe=>by have:=Cm a.own h;omega,(a.nf g h).2⟩⟩
def Row.mvT{s F G t}(R:Row u v s F G)(M:Fu u O G t):Row O v s F t:=
 ⟨Di R.own λg h=>M.K.block g (Cm R.own h) (R.nf g h).2,λg h=>⟨(R.nf g h).1,λk=>(M.new g k).elim (R.nf g h).2 λe=>by have:=Cm R.own h;omega⟩⟩
def Row.kf{s F G}(R:Row u v s F G)(K:Ax u O iO):Row O v s F G:=
 ⟨Di R.own λg h=>K.block g (Cm R.own h) id,R.nf⟩
section
variable {Post:PA y F} {Stop:Goroutine->Z->Prop} {p q:R} {k:List M} {w v:hY} {x:iE} {K:Nat} {m g:hQ}
def Ma.takeS(T:Ma e F y c u os b A B d h l k r o w v)(V:l[i]?=ni a)(E:keyOf prog 3 (iL a.k)=ni (Lit.int yi a.k)):Bg prog tu Y Stop 12 #[iI os,iL a.k] u λj O=>∃f I,j=.tuple #[f,iL 0]/\Ma e F y c O os b A B d h (l.set i { a with lo:=[] }) k r o I v/\Fu u O w I/\Row O f a.lo I v:=by
 apply Bp (T.s.take V E);rintro j O⟨f,I,rfl,N,M,m,q,n⟩;exact⟨f,I,iP,T.mvS N M,M,m,λg G=>⟨n g G,T.ap g (q g G)⟩⟩
def Ma.takeT(T:Ma e F y c u os b A B d h l k r o w v)(V:k[i]?=ni a)(E:keyOf prog 3 (iL a.k)=ni (Lit.int yi a.k)):Bg prog tu Y Stop 12 #[iI b,iL a.k] u λj O=>∃f I,j=.tuple #[f,iL 0]/\Ma e F y c O os b A B d h l (k.set i { a with lo:=[] }) r o w I/\Fu u O v I/\Row O f a.lo w I:=by
 apply Bp (T.t.take V E);rintro j O⟨f,I,rfl,N,M,m,q,n⟩;exact⟨f,I,iP,T.mvT N M,M,m,λg G=>⟨λp=>T.ap g p (q g G),n g G⟩⟩
def Aqy(S:Pu p s q os b f)(j:f 15=iL 2)(G:f 16=iL 2)(T:Ma e F y c u os b A B d h l k r o w v)(V:l[0]?=ni a)(E:a.k=1):Hj prog tu Y (P Post) 3 (Nw 9) (λm t O=>m=.normal/\∃g,t=PT g/\(Pu p s q os b g/\g 15=iL 2/\g 16=iL 2/\g 24=iL 0)/\∃I,Ma e F y c O os b A B d h (l.set 0 { a with lo:=[] }) k r o I v/\Fu u O w I/\Row O (g 23) a.lo I v) (PT f) u:=by
 have n:=T.takeS (Stop:=P Post) V (by rw[E];exact Ahi.1);unfold Nw PT;rw[S.4,S.5];refine Qit ?_;refine A3 n iP Ac iP Aga ?_;rintro x Z⟨i,I,rfl,N,M,R⟩;refine Mtk ?_;exact Au ⟨iP,Ji iP ⟨⟨⟨S.1,S.2,S.h2,iP,iP,S.6,S.7⟩,j,G,iP⟩,I,N,M,R⟩⟩
def Ao9(S:Pu p s q os b f)(j:f 15=iL 2)(G:f 16=iL 2)(H:f 24=iL 0)(T:Ma e F y c u os b A B d h l k r o w v)(V:k[0]?=ni a)(E:a.k=1):Hj prog tu Y (P Post) 3 (Nw 10) (λm t O=>m=.normal/\∃g,t=PT g/\(Pu p s q os b g/\g 15=iL 2/\g 16=iL 2/\g 24=iL 0/\g 26=iL 0/\g 23=f 23)/\∃I,Ma e F y c O os b A B d h l (k.set 0 { a with lo:=[] }) r o w I/\Fu u O v I/\Row O (g 25) a.lo w I) (PT f) u:=by
 have n:=T.takeT (Stop:=P Post) V (by rw[E];exact Ahi.1);unfold Nw PT;rw[S.6,S.7];refine Qit ?_;refine A3 n iP Ac iP Aga ?_;rintro x Z⟨i,I,rfl,N,M,R⟩;refine Mtk ?_;exact Au ⟨iP,Ji iP ⟨⟨⟨S.1,S.2,S.h2,S.4,S.5,iP,iP⟩,j,G,H,iP,iP⟩,I,N,M,R⟩⟩
def Apa(S:Pu p s q os b f)(G:f 15=iL 2)(j:f 16=iL 2)(H:f 24=iL 0)(D:f 26=iL 0)(T:Ma e F y c u os b A B d h l k r o w v)(V:l[1]?=ni a)(E:a.k=2):Hj prog tu Y (P Post) 3 (Nw 11) (λm t O=>m=.normal/\∃g,t=PT g/\(Pu p s q os b g/\g 15=iL 2/\g 16=iL 2/\g 24=iL 0/\g 26=iL 0/\g 28=iL 0/\g 23=f 23/\g 25=f 25)/\∃I,Ma e F y c O os b A B d h (l.set 1 { a with lo:=[] }) k r o I v/\Fu u O w I/\Row O (g 27) a.lo I v) (PT f) u:=by
 have n:=T.takeS (Stop:=P Post) V (by rw[E];exact Ala.1);unfold Nw PT;rw[S.4,G];refine Qit ?_;refine A3 n iP Ac iP Aga ?_;rintro x Z⟨i,I,rfl,N,M,R⟩;refine Mtk ?_;exact Au ⟨iP,Ji iP ⟨⟨⟨S.1,S.2,S.h2,iP,S.5,S.6,S.7⟩,iP,j,H,D,iP,iP,iP⟩,I,N,M,R⟩⟩
def Apb(S:Pu p s q os b f)(j:f 15=iL 2)(G:f 16=iL 2)(H:f 24=iL 0)(D:f 26=iL 0)(m:f 28=iL 0)(T:Ma e F y c u os b A B d h l k r o w v)(V:k[1]?=ni a)(E:a.k=2):Hj prog tu Y (P Post) 3 (Nw 12) (λt z O=>t=.normal/\∃g,z=PT g/\(Pu p s q os b g/\g 15=iL 2/\g 16=iL 2/\g 24=iL 0/\g 26=iL 0/\g 28=iL 0/\g 30=iL 0/\g 23=f 23/\g 25=f 25/\g 27=f 27)/\∃I,Ma e F y c O os b A B d h l (k.set 1 { a with lo:=[] }) r o w I/\Fu u O v I/\Row O (g 29) a.lo w I) (PT f) u:=by
 have n:=T.takeT (Stop:=P Post) V (by rw[E];exact Ala.1);unfold Nw PT;rw[S.6,G];refine Qit ?_;refine A3 n iP Ac iP Aga ?_;rintro x Z⟨i,I,rfl,N,M,R⟩;refine Mtk ?_;exact Au ⟨iP,Ji iP ⟨⟨⟨S.1,S.2,S.h2,S.4,S.5,iP,S.7⟩,j,iP,H,D,m,iP,iP,iP,iP⟩,I,N,M,R⟩⟩
def Apc(S:Pu p s q os b f)(T:Ma e F y c u os b A B d h l k r o w v)(b5:0<E d.ns)(b6:∀g∈d.ns,g.2.path=g.1)(bd:h.num=d.num)(al:h.ns=d.ns):Hj prog tu Y (P Post) 3 (Nw 13) (λi j O=>i=.normal/\∃a,j=PT a/\(Pu p s q os b a/\a 31=vp tu/\a 15=f 15/\a 16=f 16/\a 24=f 24/\a 26=f 26/\a 28=f 28/\a 30=f 30/\a 23=f 23/\a 25=f 25/\a 27=f 27/\a 29=f 29)/\Ax u O iO) (PT f) u:=by
 unfold Nw PT;rw[S.4,S.6];refine Qit ?_;refine A3 (T.tree b5 b6 bd al) iP Ac iP Af ?_;rintro W ae⟨rfl,ad⟩;walk_nrm;refine V2g ?_;exact Au ⟨iP,Ji iP ⟨⟨⟨S.1,S.2,S.h2,iP,S.5,iP,S.7⟩,iP,iP,iP,iP,iP,iP,iP,iP,iP,iP,iP⟩,ad⟩⟩
def Apd(S:Pu p s q os b f)(h:f 15=iL 2)(T:f 16=iL 2)(P:f 24=iL 0)(a:f 26=iL 0)(d:f 28=iL 0)(t:f 30=iL 0):Hj prog tu Y (Jh Post) 3 (Nw 14) (λe l O=>e=.normal/\∃r,l=PT r/\(r 0=p/\r 31=f 31/\r 23=f 23/\r 25=f 25/\r 27=f 27/\r 29=f 29)/\O=u) (PT f) u:=by
 unfold Nw PT;simp only[rP,Tryz.f3,bJ,Code.one,Code.two];rw[h,T,P,a,d,t];refine Rxn ?_
 iterate 22 (refine Ar ?_;walk_nrm)
 refine Zln ?_;refine Nqc ?_;exact⟨trivial,Ji iP ⟨⟨S.1,iP,iP,iP,iP,iP⟩,trivial⟩⟩
def Ape(h:f 0=um x L K)(T:f 31=vp tu){F G}(M:Row u (f 23) m F G)(s:Row u (f 25) m F G)(D:Row u (f 27) g F G)(J:Row u (f 29) g F G)(E:L=0∨0<iR m)(I:iR m<=9000000000)(V:L<=1000000):Hj prog tu D5 (Jh Post) 3 (Nw 15) (λt v O=>t=.normal/\∃k,v=PT k/\k 6=vp tu/\Ax u O iO) (PT f) u:=by
 have l:=M.own;have b:=s.own;have c:=D.own;have e:=J.own;obtain⟨w,Q,P⟩:=Ry l;obtain⟨y,R,b2⟩:=Ry b;obtain⟨S,z,q⟩:=Ry c;obtain⟨A,B,b4⟩:=Ry e;rw[P]at l;rw[b2]at b;rw[q]at c;rw[b4]at e;generalize j:iR m=d at *;generalize p:iR g=n at *;unfold Nw PT;simp only[rP,Tryz.f3,bJ,Code.one,Code.two];rw[h,T,P,b2,q,b4];refine Ay ?_;refine Trb ?_;refine Qr (um w d Q) m (by rwa[j]) iP Ac (B7 Ab) iP Ac ?_;intro U H;walk_nrm;refine V2g ?_;refine Qr (um y d R) m (by rw[j];exact Di b λa G=>H.block a (Cm b G) id) iP Ac (B7 Ab) iP Ac ?_;intro X C;walk_nrm;refine Bom ?_;refine Trb ?_;have o:=H.trans C;refine Qr (um S n z) g (by rw[p];exact Di c λa G=>o.block a (Cm c G) id) iP Ac (B7 Ab) iP Ac ?_;intro Y W;walk_nrm;refine V2g ?_;have i:=o.trans W;refine Qr (um A n B) g (by rw[p];exact Di e λa G=>i.block a (Cm e G) id) iP Ac (B7 Ab) iP Ac ?_;intro Z r;walk_nrm;refine Bom ?_;refine Ldr ?_;by_cases N:L=0
 ·subst N;refine Bom ?_;refine V2g ?_
  iterate 3(refine Fi4 ?_)
  refine Trb ?_;exact Au ⟨iP,Ji iP ⟨iP,i.trans r⟩⟩
 ·have hm:0<d:=Aa;have a1:¬(L:Int)=0:=Aa;have a6:(0:Int)<(d:Int):=Aa;refine Kbk ?_;refine Trb ?_;refine Bom ?_;refine Trb ?_;exact Au ⟨iP,Ji iP ⟨iP,i.trans r⟩⟩
end
def bdR:Nat->Code
 |0=>bdP
 |n+1=>Code.two (bdR n)
def bdS(n:Nat):Code:=Code.one (bdR n)
def V7(n)(z:n<6):bdR n=.seq (bdS n) (bdR (n+1)):=by
 have h:n=0∨n=1∨n=2∨n=3∨n=4∨n=5:=Aa;rcases h with rfl|rfl|rfl|rfl|rfl|rfl<;>rfl
def Agq:bdR 6=inP:=iP
section
variable {Post:PA y F} {p q:R} {k:List M} {w v:hY} {x m:iE} {K n:Nat}
def bd0(G:Pu (um x L K) s q os b f)(F:f 15=iL 2)(d:f 16=iL 2)(g:f 17=iL i){a}(U:Y2 Post x a)(z:E a=L)(M:L<=K)(V:i<L)(D:L<=1000000):Hj prog tu Y (P Post) 3 (bdS 0) (λe l O=>e=.normal/\∃r,l=PT r/\(Pu (um x L K) s q os b r/\r 15=iL 2/\r 16=iL 2/\r 17=iL i)/\(∃c,r 18=x7 (Hf (KR c (1+Mo c.k 7) i)))/\Ax u O iO) (PT f) u:=by
 obtain⟨c,Z⟩:∃c,a[i]?=ni c:=⟨_,aG Aa⟩;obtain⟨k,off,rfl,j,X⟩:=U i c Z;have m:(i:Int)<(L:Int):=Aa;have n:(L:Int)<=(K:Int):=Aa;unfold bdS bdR bdP Nw PT;simp only[rP,Tryz.f3,bJ,Code.one,Code.two,GQ,MM];rw[G.1,g];refine Qit ?_;refine B6 (w9 (ni ⟨k,off+i * 6,su⟩)) ?_;walk_nrm;refine Ady j iP Ac (B7 Ab) iP Ac ?_;walk_nrm;refine V2g ?_;refine A3 (Pf (f:=9) (args:=#[c.val,iL i]) Ae (X:=λ_=>False) (R:=λy _=>y=x7 (Hf (KR c (1+Mo c.k 7) i))) λw W N=>(SO w c.k c.a c.b c.v c.s c.w i 9 1 7 Ae X.k X.a X.b X.v X.s Aa Aa).mono λe B h=>⟨⟨_,h.1,iP⟩,B5 h.2⟩) iP Ac iP Af ?_;rintro y o⟨H,_,_,_,rfl⟩;walk_nrm;refine V2g ?_;exact Au ⟨iP,Ji iP ⟨⟨⟨iP,G.2,G.h2,G.4,G.5,G.6,G.7⟩,F,d,iP⟩,⟨c,iP⟩,H⟩⟩
def bd1(S:Pu (um x L K) (x7 tl) q os b f)(F:f 15=iL 2)(h:f 16=iL 2)(c:f 17=iL i)(B:f 18=x7 X)(V:i<L)(D:L<=1000000)(t:X.size<=2000)(R:tl.size<=1048576):Hj prog tu Y (P Post) 3 (bdS 1) (λe l O=>e=.normal/\∃r,l=PT r/\(Pu (um x L K) (x7 tl) q os b r/\r 15=iL 2/\r 16=iL 2/\r 17=iL i)/\r 18=x7 (if i+1=L then X++tl else X)/\O=u) (PT f) u:=by
 have W:IntKind.i64.wrap ((L:Int) - 1)=(L:Int) - 1:=by simp[vgf,yum,dut];omega
 unfold bdS PT;simp only[bdR,bdP,rP,Tryz.f3,bJ,Code.one,Code.two,GQ,MM,Nw];rw[S.1,S.2,c,B];by_cases a:i+1=L
 ·have d:(i:Int)=(L:Int) - 1:=Aa;refine Rxn ?_;refine Trb ?_;refine B6 (iL ((L:Int) - 1)) ?_;walk_nrm;refine Bom ?_;refine Od4 ?_;refine Qit ?_;have C:X.size+tl.size<=9223372036854775807:=Aa;refine Fh (S:=env Lv) (x:=x7 (X++tl)) iP Ac (B7 Ab) (A4 _ _) Ajr (λH=>by have M:=Akp X tl H;first|(simp[go_sem,M];done)|(go_simp;exact M)) ?_;walk_nrm;refine V2g ?_;exact Au ⟨iP,Ji iP ⟨⟨⟨iP,iP,S.h2,S.4,S.5,S.6,S.7⟩,F,h,iP⟩,by rw[aJ a];rfl,iP⟩⟩
 ·have d:¬(i:Int)=(L:Int) - 1:=Aa;refine Rxn ?_;refine Trb ?_;refine B6 (iL ((L:Int) - 1)) ?_;walk_nrm;refine Kbk ?_;refine Zln ?_;refine Nqc ?_;exact⟨trivial,Ji iP ⟨⟨⟨iP,iP,S.h2,S.4,S.5,S.6,S.7⟩,F,h,iP⟩,by rw[aL a];rfl,trivial⟩⟩
def Anl(S:Pu p s q os b f)(F:f 15=iL 2)(h:f 16=iL 2)(L:f 17=iL i)(B:f 18=x7 X)(D:i<=1000000)(a:∀l(j:Nat),(∃r,l=PT r/\(Pu p s q os b r/\r 15=iL 2/\r 16=iL 2/\r 17=iL i/\r 18=x7 X/\r 19=iL ((j+1:Nat):Int)/\r 20=iL ((j+1:Nat):Int)))->j<2->(i=0->j=0)->Hj prog tu Y (P Post) 3 (bdR 5) Q l u):Hj prog tu Y (P Post) 3 (bdR 2) Q (PT f) u:=by
 have d:IntKind.i64.wrap (Int.tmod (i:Int) 3)=((i % 3:Nat):Int):=by
  have:Int.tmod (i:Int) 3=((i % 3:Nat):Int):=by rw[Int.tmod_eq_emod_of_nonneg Aa];omega
  rw[this];simp[vgf,yum,dut];omega
 rw[V7 2 Ae,V7 3 Ae,V7 4 Ae];generalize e:bdR 5=R at a⊢;unfold bdS PT;simp only[bdR,bdP,rP,Tryz.f3,bJ,Code.one,Code.two,GQ,MM,Nw];rw[S.5,S.7,F,h,L,B];refine Rxn ?_;refine Wad ?_;refine Vj2 ?_;refine Rxn ?_;refine Wad ?_;refine Vj2 ?_;by_cases J:i % 3=2
 ·have c:((i % 3:Nat):Int)=2:=Aa;refine M8j ?_;refine Mwc ?_;refine B6 (iL ((i % 3:Nat):Int)) ?_;walk_nrm;refine Bom ?_;refine Od4 ?_;refine Rxn ?_;refine Wad ?_;refine Vj2 ?_;refine Qit ?_;refine Vj2 ?_;exact a _ 1 (Ji iP ⟨⟨S.1,S.2,S.h2,S.4,iP,S.6,iP⟩,iP,iP,iP,iP,iP,iP⟩) Ae (λg=>Aa)
 ·have c:¬((i % 3:Nat):Int)=2:=Aa;have k:¬(i:Int) % 3=2:=Aa;refine M8j ?_;refine Mwc ?_;refine B6 (iL ((i % 3:Nat):Int)) ?_;walk_nrm;refine Kbk ?_;refine Zln ?_;refine Nqc ?_;exact a _ 0 (Ji iP ⟨⟨S.1,S.2,S.h2,S.4,iP,S.6,iP⟩,iP,iP,iP,iP,iP,iP⟩) Ae (λ_=>rfl)
def bd5(D:Im Cp F)(S:Pu p s q os b f)(E:f 15=iL 2)(H:f 16=iL 2)(L:f 17=iL i)(M:f 18=x7 X){a}(P:f 19=iL a.k)(Q:f 20=iL a.k)(T:Ma e F y c u os b A B d h l k r o w v)(V:l[j]?=ni a){g:hQ}(Y:r[j]?=ni g)(Z:Pv n d l){m:gY}{K t}(hC:E6 g X.data.toList m K t)(hn:n+iR m<=1000000):Hj prog tu D5 (Jh Post) 3 (bdS 5) (λa1 a' O=>a1=.normal/\∃x,a'=PT x/\(Pu p s q os b x/\x 15=iL 2/\x 16=iL 2/\x 17=iL i/\x 18=x7 X/\x 20=iL a.k)/\∃G z C I,Ma e F y c O os b A B G h z k (r.set j C) o I v/\Hz j X.data.toList g d l C G z) (PT f) u:=by
 unfold bdS PT;rw[S.4,M,P];refine Ay ?_;refine Trb ?_;refine Ls X iP Ac iP iP (B7 Ab) λw2 aj cs fz J b2 R U W=>?_;walk_nrm;have N:=T.kf J;refine A3 (N.s.feedR (Post:=Post) D V Y Z hC hn (T.s.bin J b2 R U W)) iP Ac iP Ap ?_;rintro a8 w3⟨G,z,C,I,S',a6,a7⟩;walk_nrm;exact Au ⟨iP,Ji iP ⟨⟨⟨S.1,S.2,S.h2,iP,S.5,S.6,S.7⟩,E,H,L,iP,Q⟩,G,z,C,I,N.mvS S' a6,a7⟩⟩
def xof(s i L):XOf tl.size (decide (i+1=L)) (KR s (1+Mo s.k 7) i).data.toList (if i+1=L then Hf (KR s (1+Mo s.k 7) i)++tl else Hf (KR s (1+Mo s.k 7) i)).data.toList:=by
 have ⟨q0,q1⟩:=O5 s.k (n:=7) Ae;have R:=PV s (kind:=1+Mo s.k 7) Aa Aa i;by_cases h:i+1=L
 ·have ⟨B,K,t,c⟩:=Nz _ [] tl.data.toList (aB _) I9;have M:=c.count;refine⟨B,K,t,?_,?_,λe=>absurd h (by simpa using e)⟩
  ·have:=Zk R.1 R.s1 c
   simp_all
  simp_all
 ·rw[aL h];refine⟨[],[],o9,?_,Ad,λ_=>⟨iP,iP,iP⟩⟩;have:=Zk R.1 R.s1 (.done [])
  rwa[bW]at this
def Anm(S:Im Cp F)(af:Pu (um x L K) (x7 tl) (um m g z) os b f)(ah:f 15=iL 2)(ai:f 16=iL 2)(aj:f 17=iL i){p}(hy:Y2 Post x p)(hn:iR p=L)(ak:L<=K)(t:i<L){q}(hz:KH Post e m q)(al:iR q=g)(an:g<=z)(ao:g<=2000000)(hb:L+tl.size / 4+1000<=1000000)(ht:tl.size<=1048576)(aq:Ma e F y c u os b A B d h l k r o w v)(I:PcI L tl.size i d h l k r o):Hj prog tu D5 (Jh Post) 3 bdP (λE C O=>E=.normal/\∃H,C=PT H/\(Pu (um x L K) (x7 tl) (um m g z) os b H/\H 15=iL 2/\H 16=iL 2/\H 17=iL i)/\∃M T N G a6 a7 Q J,Ma e F y c O os b A B M T N G a6 a7 Q J/\PcI L tl.size (i+1) M T N G a6 a7) (PT f) u:=by
 show Hj prog tu D5 (Jh Post) 3 (bdR 0) _ (PT f) u;rw[V7 0 Ae];refine Aw (Cr (bd0 af ah ai aj hy hn ak t Aa) ?_);rintro E a v1⟨rfl,f1,rfl,⟨S1,ar,au,av⟩,⟨s,a8⟩,K1⟩;obtain⟨q0,q1⟩:=O5 s.k (n:=7) Ae;have R:=PV s (kind:=1+Mo s.k 7) Aa Aa i;have P:=xof (tl:=tl) s i L;have hr:=R.3;have aw:(Hf (KR s (1+Mo s.k 7) i)).size<=1004:=by rw[Je];have:=R.s1;omega
 generalize KR s (1+Mo s.k 7) i=body at a8 P hr aw;rw[V7 1 Ae];refine Aw (Cr (bd1 S1 ar au av a8 t Aa Aa ht) ?_);rintro E a v2⟨rfl,f2,rfl,⟨S2,ax,ay,az⟩,aa,rfl⟩;simp only[A0];have hX:(if i+1=L then Hf body++tl else Hf body).size<=1004+tl.size:=by
  grind
 generalize (if i+1=L then Hf body++tl else Hf body)=X at aa P hX;apply Anl S2 ax ay az aa Aa;rintro C j⟨f3,rfl,S3,b5,b6,b7,b8,b9,ba⟩hj bb;have hq:=I.em t;have ab:r[j]?=ni []:=by
  grind
 obtain⟨a,V,hk⟩:∃a,l[j]?=ni a/\a.k=((j+1:Nat):Int):=by
  have bn:=aK (λbc=>bc[j]?) I.keys
  grind
 obtain⟨n,Ps,Pt,bd⟩:=I.pv;rw[aJ t]at bd;obtain⟨bo,bq,br,hC,hF,hL⟩:=P.c;have bu:iR X.data.toList=X.size:=iP;have T2:=aq.kf K1;rw[V7 5 Ae];refine Aw (Cr (bd5 (Post:=Post) (a:=a) S S3 b5 b6 b7 b8 (by rw[b9,hk]) (by rw[ba,hk]) T2 V ab Ps hC Ai) ?_);rintro E C v3⟨rfl,f4,rfl,⟨S4,bf,bg,bh,bj,bk⟩,M,N,q',Q,T3,Rs⟩;simp only[A0];rw[Agq];apply Cr (Ak7 (Post:=Post) (a:=a) (j:=j) (q:=[]) S S4 bf bg bh bj bk hz al an ao T3 (by rw[I.kl];exact V) (by rw[I.qr];exact ab) I9 (n:=n) (by rw[I.kl];exact Pt) Ai Aa);rintro E C bm⟨rfl,ad,rfl,⟨D,U,W,Y⟩,T,G,ae,J,Z,a1⟩;exact⟨iP,ad,iP,⟨D,U,W,Y⟩,M,T,N,G,_,_,Q,J,Z,I.step t Aa P hr hj bb Rs a1⟩
def Aqx(a8:Im Cp F)(S:Pu (um x L K) (x7 tl) (um m g z) os b f)(n:f 15=iL 2)(p:f 16=iL 2){j}(hy:Y2 Post x j)(hn:iR j=L)(aa:L<=K){V}(hz:KH Post e m V)(ab:iR V=g)(af:g<=z)(ah:g<=2000000)(hb:L+tl.size / 4+1000<=1000000)(ht:tl.size<=1048576)(a6:Ma e F y c u os b A B d h l k r o w v)(I:PcI L tl.size 0 d h l k r o):Hj prog tu D5 (Jh Post) 3 (Nw 8) (λE C O=>E=.normal/\∃a,C=PT a/\(Pu (um x L K) (x7 tl) (um m g z) os b a/\a 15=iL 2/\a 16=iL 2)/\∃q s H M N P Q R,Ma e F y c O os b A B q s H M N P Q R/\PcI L tl.size L q s H M N P) (PT f) u:=by
 have ai:Nw 8=.seq (Code.one (Nw 8)) (.block 0 (.loop (.seq (Code.one (MM (GQ (Code.two (Nw 8))))) (.seq (.block 1 bdP) (Code.two (Code.two (MM (GQ (Code.two (Nw 8)))))))))):=iP;rw[ai];generalize hB:bdP=BD;unfold PT;simp only[Nw,rP,Tryz.f3,bJ,Code.one,Code.two,GQ,MM];refine Rxn ?_;refine Ths ?_;refine Du ?_;refine Mt (n:=L) (I:=λt a7 X=>∃(i:Nat),t+i=L/\∃(a:iD),a7=PT a/\(Pu (um x L K) (x7 tl) (um m g z) os b a/\a 15=iL 2/\a 16=iL 2/\a 17=iL i)/\∃q s H M N P Q R,Ma e F y c X os b A B q s H M N P Q R/\PcI L tl.size i q s H M N P) ?_ ?_
 case refine_2=>exact⟨0,Aa,Ji iP ⟨⟨⟨S.1,S.2,S.h2,S.4,S.5,S.6,S.7⟩,n,p,iP⟩,d,h,l,k,r,o,w,v,a6,I⟩⟩
 clear S n p a6 I;rintro t a7 X⟨i,ay,f,rfl,⟨S,n,p,aj⟩,σ1,τ1,l1,k1,ak,al,an,ao,T1,I1⟩;have h0:=S.1;unfold PT;rw[h0,aj];by_cases hi:i<L
 case neg=>
  obtain rfl:i=L:=Aa;refine R5v ?_;refine Trb ?_;refine Kbk ?_;refine Zln ?_;refine J4 ?_;simp only[A0,As,bP,bQ];exact⟨trivial,Ji iP ⟨⟨⟨iP,S.2,S.h2,S.4,S.5,S.6,S.7⟩,n,p⟩,σ1,τ1,l1,k1,ak,al,an,ao,T1,I1⟩⟩
 case pos=>
  have az:(i:Int)<(L:Int):=Aa;have ba:IntKind.i64.wrap ((i:Int)+1)=((i+1:Nat):Int):=by simp[vgf,yum,dut];omega
  refine R5v ?_;refine Trb ?_;refine Bom ?_;refine Od4 ?_;refine Nqc ?_;refine Aw (Du ?_)
  suffices aq:∀C,(∃a,C=PT a/\(Pu (um x L K) (x7 tl) (um m g z) os b a/\a 15=iL 2/\a 16=iL 2/\a 17=iL i))->Hj prog tu D5 (Jh Post) 3 BD _ C X from aq _ (Ji iP ⟨⟨iP,S.2,S.h2,S.4,S.5,S.6,S.7⟩,n,p,iP⟩)
  rintro C⟨f1,rfl,S1,ar,au,av⟩;rw[←hB];refine Cr (Anm (Post:=Post) a8 S1 ar au av hy hn aa hi hz ab af ah hb ht T1 I1) ?_;rintro E C bm⟨rfl,ad,rfl,⟨D,U,W,Y⟩,T,G,ae,J,Z,a1,aw,ax,T2,I2⟩;simp only[As,A0];unfold PT;rw[Y];refine Mwc ?_;refine B6 (iL ((i+1:Nat):Int)) ?_;walk_nrm;refine Ths ?_;exact⟨L - (i+1),Aa,i+1,Aa,Ji iP ⟨⟨⟨D.1,D.2,D.h2,D.4,D.5,D.6,D.7⟩,U,W,iP⟩,T,G,ae,J,Z,a1,aw,ax,T2,I2⟩⟩
end
def Lg(n)(z:n<16):rP n=.seq (Nw n) (rP (n+1)):=by
 have h:n=0∨n=1∨n=2∨n=3∨n=4∨n=5∨n=6∨n=7∨n=8∨n=9∨n=10∨n=11∨n=12∨n=13∨n=14∨n=15:=Aa;rcases h with rfl|rfl|rfl|rfl|rfl|rfl|rfl|rfl|rfl|rfl|rfl|rfl|rfl|rfl|rfl|rfl<;>rfl
def Alw:rP 16=.ret:=iP
def Amr(h:l.map M.k = [1,2]):∃p N,l = [p,N]:=by
 rcases l with _|⟨a,_|⟨b,_|⟨c,l⟩⟩⟩
 ·simp at h
 ·simp at h
 ·exact⟨a,b,iP⟩
 ·simp at h
section
variable {Post:PA y F} {G i:ST} {k V q:List M} {t z:gY} {w v I j:hY} {x m:iE} {cA cC:Nat}
def Ma.sesT(D:Ma e F y c u os b A B d h l k r o w v)(H:Sv F y (λp=>c p∨p=iS u.1) O b B i q z j)(P:Fu u O v j):Ma e F y (λp=>c p∨p=iS u.1) O os b A B d i l q r z w j:=by
 have W:=H.C.W;have f:∀p,w p->p<iS u.1:=λp l=>D.s.lt l;refine⟨(D.s.kx P.K (⟨λp l=>W.rows p (.inl l),λ_ E=>E.elim,λ_ E=>E.elim,λ_ E=>E⟩) D.ap D.4 D.6 λp l=>D.t.ge l).grow W (λp E=>.inl E) (λp E=>E.imp id λa=>⟨?_,λl=>?_,?_⟩),H,λp s R=>(P.new p R).elim (D.ap p s) λE=>?_,λE=>(P.new _ E).elim D.4 λE=>?_,D.5,λE=>(P.new _ E).elim D.6 λE=>?_,D.7,D.kl.trans (P.K.mono λp l=>D.t.ge l)⟩
 ·rw[a];exact D.s.C.sz
 ·have:=f p l;omega
 ·have:=D.s.D;omega
 ·have:=f p s;omega
 ·have:=D.s.D;omega
 ·have:=D.s.os;omega
def Ma.sesS(D:Ma e F y c u os b A B d h l k r o w v)(H:Sv F y (λp=>c p∨p=iS u.1) O os A G V t I)(P:Fu u O w I):Ma e F y (λp=>c p∨p=iS u.1) O os b A B G h V k t o I v:=by
 have W:=H.C.W;have f:∀p,v p->p<iS u.1:=λp l=>D.t.lt l;refine⟨H,(D.t.kx P.K (⟨λp l=>W.rows p (.inl l),λ_ E=>E.elim,λ_ E=>E.elim,λ_ E=>E⟩) (λp g s=>D.ap p s g) D.5 D.7 λp l=>D.s.ge l).grow W (λp E=>.inl E) (λp E=>E.imp id λa=>⟨?_,λl=>?_,?_⟩),λp i R=>(P.new p i).elim (λE=>D.ap p E R) λE=>?_,D.4,λE=>(P.new _ E).elim D.5 λE=>?_,D.6,λE=>(P.new _ E).elim D.7 λE=>?_,D.kl.trans (P.K.mono λp l=>D.s.ge l)⟩
 ·rw[a];exact D.t.C.sz
 ·have:=f p l;omega
 ·have:=D.t.D;omega
 ·have:=f p R;omega
 ·have:=D.t.D;omega
 ·have:=D.t.os;omega
def pc0(n tl)(T:Ma e F y c u os b A B { σ0 with last:=2 } { σ0 with last:=2 } [⟨1,1,o9,[]⟩,⟨2,1,o9,[]⟩] [⟨1,1,o9,[]⟩,⟨2,1,o9,[]⟩] [[],[]] [[],[]] w v):PcI n tl 0 { σ0 with last:=2 } { σ0 with last:=2 } [⟨1,1,o9,[]⟩,⟨2,1,o9,[]⟩] [⟨1,1,o9,[]⟩,⟨2,1,o9,[]⟩] [[],[]] [[],[]]:=by
 have Q:GD [⟨1,1,o9,[]⟩,⟨2,1,o9,[]⟩]:=Ani (bE _) (bE _);have P:Pv 0 _ [⟨1,1,o9,[]⟩,⟨2,1,o9,[]⟩]:=⟨Aqj 2,T.s.tr.1,T.s.tr.2,Q.h8,Q.ord,Q.kw,λa h=>Ai,λa h=>Ai⟩;exact⟨⟨iP,iP,iP,⟨iP,iP⟩,⟨iP,iP⟩⟩,iP,iP,iP,iP,λ_=>rfl,λ_=>rfl,⟨0,P,P,bE _⟩,λh=>absurd h Ae⟩
def ZD(U:Im Cp F)(C:Cx F y D5 iO u)(dq:y=iS u.1)(af:∀a6,a6<8->∃ah e fz,u.1[a6]?=ni (jf ah e fz)){X c}(hA:Y2 Post x X)(ai:iR X=L)(aj:L<=cA)(hL:KH Post u m c)(ak:iR c=g)(al:g<=cC)(an:g<=2000000)(hb:L+tl.size / 4+1000<=1000000)(hs:tl.size<=1048576)(h0:f 0=um x L cA)(h1:f 1=x7 tl)(h2:f 2=um m g cC):Hj prog tu D5 (Jh Post) 3 (rP 0) (λe a' O=>e=.ret/\a'.defers = []/\a'.tmps.getD 6 undef=vp tu/\Ax u O (λp=>y<=p)) (PT f) u:=by
 rw[Lg 0 Ae];refine Aw (Cr (Aqp (Post:=Post) (f:=f)) ?_);rintro e a r⟨rfl,f0,rfl,⟨a0,ao,a2⟩,rfl⟩;simp only[A0];rw[Lg 1 Ae];refine Aw (Cr (Aqq (Post:=Post) (f:=f0)) ?_);rintro e a h⟨rfl,f1,rfl,⟨b0,b1,b2,b7⟩,K1,F1,z1⟩;simp only[A0];rw[Lg 2 Ae];refine Aw (Cr (Aqr (Post:=Post) (f:=f1)) ?_);rintro e a M⟨rfl,f2,rfl,⟨c0,c1,c2,c7,c9⟩,P,Y,z2⟩;simp only[A0];have j:Ax r M iO:=K1.trans P;have C2:Cx F y D5 iO M:=C.kx j (C.W.ofK j (λ_ _ E=>E) λ_ E=>E.elim) λ_ E=>E.elim;have a7:=Li af j λ_ E=>E.elim;rw[Lg 3 Ae];refine Aw (Cr (Aqs (Post:=Post) (f:=f2) (D:=iS r.1+1) (K:=iS r.1) U C2 a7 (F1.kf P) Aa Aa id id (c7.trans b7)) ?_);rintro e a v3⟨rfl,f3,rfl,os,⟨d0,d1,d2,d9,aq,au⟩,A,w,Q,Z,hD,av,dr,dt,k,nD⟩;simp only[A0];have C3:=Z.C;have z3:=k.size;have ap:Hs v3 (iS h.1+1) h.1.size:=⟨k.get Y.d Aa,k.get Y.k Aa⟩;have du:iS h.1+1<iS M.1:=Aa;rw[Lg 4 Ae];refine Aw (Cr (Aqt (Post:=Post) (f:=f3) (D:=iS h.1+1) (K:=iS h.1) U C3 Z.glob ap Aa Aa Ai Ai (d9.trans c9)) ?_);rintro e a R⟨rfl,f4,rfl,b,⟨e0,e1,e2,aw,ax,ay,az⟩,B,v,ae,S,dv,b5,dw,dx,T,dy⟩;simp only[A0];have K:∀p,w p->p<iS v3.1:=λp l=>Z.lt l;have dz:=Z.os;have e3:=Z.D;have W:=S.C.W;have Wb:VW D5 (λp=>False∨p=Q) R:=⟨λp l=>W.rows p (.inl l),λ_ E=>E.elim,λ_ E=>E.elim,λ_ E=>E⟩;have nK:∀p,w p->¬p=iS h.1:=λp l e=>by
  grind
 have ar:=Z.kx T Wb nK (by rw[hD];omega) Aa λp l=>Aa;have ag:Sv F y (λp=>(False∨p=Q)∨p=ae) R os A { σ0 with last:=1 } [⟨1,1,o9,[]⟩] [[]] w:=ar.grow W (λp E=>.inl E) λp E=>E.imp id λe=>⟨Aa,λl=>by have:=K p l;omega,Aa⟩
 have b6:∀p,w p->¬v p:=λp hs ht=>by
  grind
 have D:Ma r F y (λp=>(False∨p=Q)∨p=ae) R os b A B { σ0 with last:=1 } { σ0 with last:=1 } [⟨1,1,o9,[]⟩] [⟨1,1,o9,[]⟩] [[]] [[]] w v:=by
  refine⟨ag,S,b6,λE=>?_,λE=>?_,λE=>?_,λE=>?_,(((j.mono λ_ E=>E.elim).trans (k.mono λp E=>Aa)).trans (T.mono λp E=>Aa))⟩
  ·grind
  ·grind
  ·grind
  grind
 clear Z ar ag C3 ap k T Wb C2 a7 j K1 P F1 Y S av b5;rw[Lg 5 Ae];refine Aw (Cr (Aqu (Post:=Post) (⟨by rw[e0,d0,c0,b0,a0,h0],by rw[e1,d1,c1,b1,ao,h1],by rw[e2,d2,c2,b2,a2,h2],by rw[aw,aq],by rw[ax,au],ay,az⟩)) ?_);rintro e a v5⟨rfl,f5,rfl,S5,rfl⟩;simp only[A0];rw[Lg 6 Ae];refine Aw (Cr (Aqv (Post:=Post) U S5 D.s) ?_);rintro e a v6⟨rfl,f6,rfl,⟨S6,F6⟩,e4,H6,M6⟩;simp only[A0];have T6:=D.sesS H6 M6;rw[Lg 7 Ae];refine Aw (Cr (Aqw (Post:=Post) U S6 F6 T6.t) ?_);rintro e a v7⟨rfl,f7,rfl,⟨S7,F7,G7⟩,e5,H7,M7⟩;simp only[A0];have T7:=T6.sesT H7 M7;rw[Lg 8 Ae];refine Aw (Cr (Aqx (Post:=Post) U S7 F7 G7 hA ai aj hL ak al an hb hs T7 (pc0 L tl.size T7)) ?_);rintro e a v8⟨rfl,f8,rfl,⟨S8,F8,G8⟩,G,i,V,q,t,z,e6,e7,T8,b8⟩;simp only[A0];obtain⟨tw,rfl,rfl,keys,ln,em,e8,⟨n,Ps,Pt,hn⟩,lo⟩:=b8;obtain⟨d,N,rfl⟩:=Amr keys;have a8:d.k=1:=Ai;have aa:N.k=2:=by simp at keys;exact keys.2
 have e9:n<=1000000:=by split at hn<;>omega
 have ec:=Ps.lo d Ad;rw[Lg 9 Ae];refine Aw (Cr (Aqy (Post:=Post) (a:=d) S8 F8 G8 T8 iP a8) ?_);rintro e a v9⟨rfl,f9,rfl,⟨S9,F9,G9,b9⟩,ed,T9,M9,R9⟩;simp only[A0];rw[Lg 10 Ae];refine Aw (Cr (Ao9 (Post:=Post) (a:=d) S9 F9 G9 b9 T9 iP a8) ?_);rintro e a ee⟨rfl,ef,rfl,⟨ba,bb,bc,bd,bf,bg⟩,eg,bh,bj,bk⟩;simp only[A0];rw[Lg 11 Ae];refine Aw (Cr (Apa (Post:=Post) (a:=N) ba bb bc bd bf bh iP aa) ?_);rintro e a eh⟨rfl,ei,rfl,⟨bm,bn,bo,bq,br,bu,bw,bx⟩,s,bz,ab,c6⟩;simp only[A0];rw[Lg 12 Ae];refine Aw (Cr (Apb (Post:=Post) (a:=N) bm bn bo bq br bu bz iP aa) ?_);rintro e a ej⟨rfl,ek,rfl,⟨c8,cc,cd,cf,cg,cj,ck,cm,cn,cp⟩,H,ad,a1,cq⟩;simp only[A0];rw[Lg 13 Ae];refine Aw (Cr (Apc (Post:=Post) c8 ad Ps.inv.pos Ps.inv.path tw.num tw.ns) ?_);rintro e a eo⟨rfl,ep,rfl,⟨cr,cu,cw,cx,cy,cz,da,db,dc,dd,de,dg⟩,o⟩;simp only[A0];rw[Lg 14 Ae];refine Aw (Cr (Apd (Post:=Post) cr (cw.trans cc) (cx.trans cd) (cy.trans cf) (cz.trans cg) (da.trans cj) (db.trans ck)) ?_);rintro e a I⟨rfl,J,rfl,⟨w0,dh,di,dj,dk,dm⟩,rfl⟩;simp only[A0];have Q1:Row I (J 23) d.lo s H:=by rw[di,dc,cm,bw,bg];exact(((R9.mvT bj).mvS ab).mvT a1).kf o
 have Q2:Row I (J 25) d.lo s H:=by rw[dj,dd,cn,bx];exact((bk.mvS ab).mvT a1).kf o
 have Q3:Row I (J 27) N.lo s H:=by rw[dk,de,cp];exact(c6.mvT a1).kf o
 have Q4:Row I (J 29) N.lo s H:=by rw[dm,dg];exact cq.kf o
 have hc:L=0∨0<iR d.lo:=by
  by_cases E:L=0
  ·exact .inl E
  ·obtain⟨a,ha,hp⟩:=lo Aa;simp at ha;exact .inr (ha▸hp)
 rw[Lg 15 Ae];refine Aw (Cr (Ape (Post:=Post) w0 (dh.trans cu) Q1 Q2 Q3 Q4 hc Aa Aa) ?_);rintro e a er⟨rfl,et,rfl,h6,dp⟩;simp only[A0];rw[Alw];exact Dm ⟨iP,iP,h6,(ad.kl.trans (o.mono λ_ E=>E.elim)).trans (dp.mono λ_ E=>E.elim)⟩
end
def Aju(W:Z)(oC:iE)(zs:List Int):Prop:=∀i(z:Int),zs[i]?=ni z->∃b off,oC=ni (iK b off)/\W.cell? ⟨b,off+i,su⟩=ni (iL z)/\Sh z
section
variable {l:iG} {post:iH}
def Akg(S)(R:DS W l){e a}(y:Aju W e a)(p:∀c,e=ni c->c.block∈l):KH (PAL S R post) (Bb (TAL l) (Gk W l)) (e.map (Pe l)) a:=λi x Z=>by
 obtain⟨c,off,rfl,h,d⟩:=y i x Z;have D:=p _ iP;have V:=Z1 D;refine⟨l.idxOf c,off,iP,?_,d⟩;by_cases b:8<=c
 ·have H:=TC S D b;exact .inl ⟨⟨H,dV.2 D⟩,(Dz V H h iP).1,(Dz V H h iP).2⟩
 ·have f:l.idxOf c=c:=by
   have g:=S.g8 c Aa;exact(gM S.1).1 ((aD.1 V).2.trans (aD.1 g).2.symm)
  rw[f];refine .inr ⟨Aa,?_⟩;have M:(Gk W l).cell? ⟨c,off+i,su⟩=ni (iL x):=by
   rw[Rr (S.g8 c Aa),h,aI];simp[N5,gO b,Pz]
  rw[←M];apply o2;rw[Bu];cases(Gk W l).1[c]? with
  |none=>rfl
  |some o=>simp[TAL,b]
def Ak8:prog.inits.idxOf? (base 3).fn=su:=Ab
set_option maxRecDepth 100000 in
def Aqo(S)(R:DS W l)(m:∀B,iS W.1<=iS B.1->(∀i,i<iS W.1->B.1[i]?=W.1[i]?)->CH W B->post (vp tu) B){a}(o:a.defers = [])(Z:a.tmps.getD 6 undef=vp tu)(E:Ax (Bb (TAL l) (Gk W l)) O (λj=>iR l<=j))(c):EV prog tu Y (P (PAL S R post)) (G { (base 3).at a c with mode:=.returning } []) O:=by
 refine EV.stop λd p N D=>?_;refine EN.ret iP λn w g s H=>⟨vp tu,λM=>?_,λM=>?_⟩
 ·have f:a.tmps[6]?=ni (vp tu):=by
   rw[cG]at Z;cases h:a.tmps[6]? with
   |none=>rw[h]at Z;cases Z
   |some y=>grind
  have e:Bn n (G { (base 3).at a c with mode:=.returning } [])=G { (base 3).at (Bw n a) (c.map (Dg n)) with mode:=.returning } []:=rfl;rw[e,Aaj iP (by simp[Bw,o]) func3 (results_tmp Ac _ _ _) (events_results_tmp Ac _ _) Ak8];simp[Bw,cG,f]
 ·have b:=Z3 (Ga S.rows) p (⟨E.os,E.tape,E.output,E.size,E.block⟩);rw[Jc S.rows]at b;have I:=S.stand (H:=HW S post) iP (λq C J=>⟨C,J⟩) s b H.kept λi r V=>by
   rw[(H.nn i ((aD.1 V).1)).1]
   show l.getD i 0=r
   grind
  refine m (w.at M) ?_ I ⟨(s.sm 0).os.trans b.os,(s.sm 0).output.trans b.output⟩
  show iS W.1<=iS w.1
  grind
set_option maxRecDepth 100000 in
def Aqb(x y z):({ tmps:=#[x,y,z]++Array.replicate (Tryz.f3.7 - (#[x,y,z]:iB).size) undef,defers:=[] }:Act)=PT (f3 x y z):=Ab
set_option maxRecDepth 100000 in
def NQ(S:Xj W l)(R:DS W l)(L:Laid W){w Q H f v n}{s:hU}{xs zs}(y:Aa1 W w xs)(Y:iR xs=H)(K:H<=f)(e:Aju W Q zs)(O:iR zs=v)(X:v<=n)(q:v<=2000000)(D:H+s.size / 4+1000<=1000000)(j:s.size<=1048576)(I:∀b off x,AkW W b off x->8<=b)(z:∀b,w=ni b->b.block∈l)(g:∀b,Q=ni b->b.block∈l)(o:∀d,iS W.1<=iS d.1->(∀i,i<iS W.1->d.1[i]?=W.1[i]?)->CH W d->post (vp tu) d):Go.Pair.Ends prog post iO 0 (G (ow prog 3 #[um w H f,x7 s,um Q v n] .normal) []) W:=by
 have B:Shown l (um w H f):=.inr ⟨_,_,_,iP,z⟩;have F:Shown l (um Q v n):=.inr ⟨_,_,_,iP,g⟩;have t:∀a(m k:Nat),Pz l (um a m k)=um (a.map (Pe l)) m k:=λa m k=>by cases a<;>rfl
 have U:=Zb S.agr B;have M:=Zb S.agr F;have P:=GP B;have Z:=GP F;rw[t]at U M P Z;have A:=ZD (Post:=PAL S R post) (cA:=f) (cC:=n) (tl:=s) (f:=f3 (um (w.map (Pe l)) H f) (x7 s) (um (Q.map (Pe l)) v n)) Aq1 (Ab6 S L) (by rw[Dd,Jf]) (λi V=>by
  obtain⟨c,ab,fz,C⟩:=S.row i (aV (S.g8 i V));exact⟨_,_,_,by rw[Bu,Qm (S.g8 i V) C];simp[TAL,show ¬8<=i by omega];exact⟨iP,iP,iP⟩⟩) (Ago S R y z I) Y K (Akg S R e g) O X q D j iP iP iP
 have E:EV prog tu D5 (Jh (PAL S R post)) (G (ow prog 3 #[um (w.map (Pe l)) H f,x7 s,um (Q.map (Pe l)) v n] .normal) []) (Bb (TAL l) (Gk W l)):=by
  rw[enter_at (c:=rP 0) _ func3 iP,Aqb];exact A (base 3) [] [] iP iP λN T ad⟨a1,hd,hx,a6⟩=>by
   subst a1;exact Aqo S R o hd hx a6
 have a7:EN prog (HW S post) (PAL S R post).JX (G (ow prog 3 #[um (w.map (Pe l)) H f,x7 s,um (Q.map (Pe l)) v n] .normal) []) (Gk W l):=by
  apply EN.ofP (NR S);have:=EV.show (PAL S R post).6 (PAL S R post).rows (Ga S.rows) E
  rwa[Jc (PAL S R post).rows]at this
 have u:=a7 S.n W iO (S.side (λa8 C J aa=>aa.2 a8 C J iP) (by
  rw[Ep,←Kc];simp only[cK,bA,cO,P,Z,Bc])) ⟨λl h=>h.elim,⟨λa T h=>h.elim,λr h=>h⟩,λl h=>h.elim,⟨λa _=>rfl,λr c N fz h _=>⟨c,h,iP⟩,λr ae _ h _=>h⟩,λi V=>⟨?_,?_⟩⟩
 ·rw[Ep,←Kc]at u;simp only[cK,bA,cO,U,M,Bc]at u;exact u
 ·have p:i<iR l:=V;rw[S.agr i _ (aG p)]
  show _=l.getD i 0;rw[cZ,aG p];rfl
 ·have p:i<iR l:=V
  show l.getD i 0<_;rw[cZ,aG p];exact S.lt _ (eU p)
end
open Go.ChangeShapes Go.WideShapes Go.ChangeAt
def WQ(l:List (DataW H)):E l<=Rows.uptoBulkAll l:=by
 induction l with
 |nil=>simp[Rows.uptoBulkAll]
 |cons x r O=>
  have F:=Abo x;simp only[Rows.uptoBulkAll,aU];omega
def Akf{a}{P:mi×R->a}{e:iE}{H f y}(F:DataW.trod P prog W 0 (λ_=>tu) tu I 23 [um e H f]=ni y):H<=f/\H<=Rows.uptoBulk y.1/\∃k,E k=H/\Aju W e k:=by
 rcases DataW.trod_slice Tryz.underlying23 F with⟨z,_⟩|⟨j,l,aa,d,ad,n,af,z,G,_,K,o,q,O,_,_⟩
 ·exact W9t
 ·simp only[dG,and_true,qvf]at z;obtain⟨rfl,rfl,rfl⟩:=z;rw[G];simp only[Rows.uptoBulk];have b:∀i,i<H->∃x c off,j=(iK c off)/\W.cell? ⟨c,off+i,su⟩=ni (iL x)/\Sh x:=λi V=>?b
  ·refine⟨K,?_,List.ofFn (n:=H) λi=>ael (b i.1 i.2),Ad,λi x Z=>?_⟩
   ·have:=WQ (d.map (·.1))
    grind
   grind
  rw[Abu]at O;have g:i<E d:=Aa;have p:=O i V;rw[aG g]at p;obtain⟨cs,z,L⟩:=bL.1 p;obtain⟨X,m,_,v⟩:=DataW.trod_int underlying3 L;subst m;obtain⟨c,off,t⟩:=j;have h:W.cell? ((⟨c,off,t⟩:rj).add (i * 1))=ni (iL X):=by
   have C:=(World.cells?_some z).2.2 0 Ad;simp only[List.getElem?_cons_zero]at C;rw[←C]
   rfl
  have ab:t=su:=by
   by_cases ak:i=0
   ·subst ak;simpa[Addr.add] using(World.cell?_spot h)
   ·exact Jkc
  subst ab;rw[Addr.add_lit,gI]at h;exact⟨X,c,off,iP,h,wch v⟩
