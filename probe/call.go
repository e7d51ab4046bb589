package probe

import (
	"strings"

	"errata/api"
	"errata/kinds"
)

// called is what the method of a face tells. x is asserted to that face first, also where there is no method to be called, and panics if it doesn't hold it. The target is Is's, and n says what As is handed.
func called(x any, face uint8, target error, n int) api.Value {
	switch face {
	case api.FaceError:
		return textOf(x.(error).Error())
	case api.FaceGrader:
		return intOf(x.(api.Grader).Grade())
	case api.FaceCoder:
		return intOf(x.(api.Coder).Code())
	case api.FaceWeigher:
		return floatOf(x.(api.Weigher).Weight())
	case api.FacePhaser:
		return complexOf(x.(api.Phaser).Phase())
	case api.FaceTimer:
		return boolOf(x.(api.Timer).Timeout())
	case api.FaceLiner:
		return intOf(x.(api.Liner).Line())
	case api.FaceDetailer:
		return textsOf(x.(api.Detailer).Details())
	case api.FaceOne:
		return boolOf(x.(api.One).Unwrap() != nil)
	case api.FaceMany:
		return intOf(len(x.(api.Many).Unwrap()))
	case api.FaceJudge:
		return boolOf(x.(api.Judge).Is(target))
	case api.FaceLender:
		return lentBy(x.(api.Lender), n)
	case api.FaceKinder:
		return intOf(x.(api.Kinder).Kind())
	case api.FaceSizer:
		return intOf(x.(api.Sizer).Len())
	case api.FaceTimedError:
		timed := x.(api.TimedError)
		return listOf(textOf(timed.Error()), boolOf(timed.Timeout()))
	case api.FaceCodedCause:
		coded := x.(api.CodedCause)
		return listOf(boolOf(coded.Unwrap() != nil), intOf(coded.Code()))
	case api.FaceWhole:
		whole := x.(api.Whole)
		return listOf(textOf(whole.Error()), intOf(whole.Grade()), floatOf(whole.Weight()), boolOf(whole.Timeout()))
	case api.FaceNobody:
		_ = x.(api.Nobody)
	case api.FaceAny:
		_ = x.(any)
	}
	return api.Value{}
}

// lentBy is what As answers, and the code of what it lent.
func lentBy(lender api.Lender, n int) api.Value {
	var code int16
	var ok bool
	switch n {
	case 0:
		var lent kinds.Coded
		if ok = lender.As(&lent); ok {
			code = lent.Code()
		}
	case 1:
		var lent api.Coder
		if ok = lender.As(&lent); ok {
			code = lent.Code()
		}
	default:
		var none int
		ok = lender.As(&none)
	}
	return listOf(boolOf(ok), intOf(code))
}

func textOf(s string) api.Value { return api.Value{Kind: api.ValText, Text: strings.Clone(s)} }

func textsOf(all []string) api.Value {
	texts := make([]api.Value, len(all))
	for i, s := range all {
		texts[i] = textOf(s)
	}
	return listOf(texts...)
}

func intOf[N int | int8 | int16 | uint8](n N) api.Value {
	return api.Value{Kind: api.ValInt, Int: int64(n)}
}

func floatOf(x float64) api.Value { return api.Value{Kind: api.ValFloat, Re: x} }

func complexOf(x complex128) api.Value {
	return api.Value{Kind: api.ValComplex, Re: real(x), Im: imag(x)}
}

func boolOf(ok bool) api.Value {
	v := api.Value{Kind: api.ValBool}
	if ok {
		v.Int = 1
	}
	return v
}

func listOf(items ...api.Value) api.Value { return api.Value{Kind: api.ValList, List: items} }
